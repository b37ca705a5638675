/- The walk of BodiesPuts. -/
import Derived.Test.YtebgmfjgapmpfaaGreatDoorQb12
import Derived.Test.YtebgmfjgapmpfaaGreatDoorQb08
import Derived.Deep.CutBlock
import Derived.Deep.DeepCutAuto
namespace Go.Proofs.YtebgmfjgapmpfaaGreatDoor
open Go.RowKit
set_option linter.unusedVariables false
set_option maxRecDepth 100000

/-- What the law keeps: the box of its input, the bytes, the scanner's cell. -/
structure PKBd (w : World) (x : Bd) (L : Option Addr) (l : Nat) (B : Option Addr) (c : Nat) (p : Nat) (N : Nat) (Ab : Option Addr) (y : List UInt8) (b6 : Nat) (W : World) : Prop where
  bx : Whole W w.heap.size 70 (bdC x L l B c)
  ly : Lies W N Ab (cells (nums y))
  pt : Whole W b6 24 #[.pointer (some ⟨p, 0, none⟩)]
  bel : Below w.heap.size w W
  o1 : w.heap.size < p
  o2 : N ≤ p
  o3 : p < b6
  o4 : N ≤ W.heap.size
section
variable {w W W' : World} {x : Bd} {L : Option Addr} {l : Nat} {B : Option Addr} {c : Nat} {p N b6 k k' q : Nat} {M : List UInt8} {Ab : Option Addr} {y : List UInt8}
theorem PKBd.grown (h : PKBd w x L l B c p N Ab y b6 W) (hg : W.grownBy W' (some q)) (h1 : p ≤ q) (h2 : b6 ≠ q) : PKBd w x L l B c p N Ab y b6 W' := by
  obtain ⟨a1, a2, a3, a4, a5, a6, a7, a8⟩ := h
  exact ⟨a1.grown hg (by simp only [ne_eq, Option.some.injEq]; omega), a2.grown hg a8 (fun g e => by injection e with e; omega), a3.grown hg (by simp only [ne_eq, Option.some.injEq]; omega), below_new a4 hg (by omega), a5, a6, a7, Nat.le_trans a8 hg.size⟩
theorem PKBd.below (h : PKBd w x L l B c p N Ab y b6 W) (hb : Below W.heap.size W W') : PKBd w x L l B c p N Ab y b6 W' := by
  obtain ⟨a1, a2, a3, a4, a5, a6, a7, a8⟩ := h
  exact ⟨a1.below hb, a2.below hb a8, a3.below hb, a4.trans (hb.mono a4.size), a5, a6, a7, Nat.le_trans a8 hb.size⟩
/-- At the law's end. -/
structure PEBd (w : World) (x : Bd) (L : Option Addr) (l : Nat) (B : Option Addr) (c : Nat) (L2 : Option Addr) (l2 : Nat) (B2 : Option Addr) (c2 : Nat) (p : Nat) (N : Nat) (Ab : Option Addr) (y : List UInt8) (b6 g : Nat) (M : List UInt8) (k : Nat) (W : World) : Prop where
  a : PKBd w x L l B c p N Ab y b6 W
  sc : Sc W p M k
  yb : Whole W g 70 (bdC x L2 l2 B2 c2)
  st : Whole W (g + 1) 32 #[.int .i64 0, .int .i64 0]
  ylf : Los W L2 x.ls ∧ Ins W B2 x.b
theorem PEBd.below {g l2 c2 : Nat} {L2 B2 : Option Addr} (h : PEBd w x L l B c L2 l2 B2 c2 p N Ab y b6 g M k W) (hb : Below W.heap.size W W') : PEBd w x L l B c L2 l2 B2 c2 p N Ab y b6 g M k W' := ⟨h.a.below hb, h.sc.below hb, h.yb.below hb, h.st.below hb, h.ylf.1.below hb, h.ylf.2.below hb⟩
/-- .. and what it reads as. -/
abbrev PEBdc (w : World) (x : Bd) (L : Option Addr) (l : Nat) (B : Option Addr) (c : Nat) (L2 : Option Addr) (l2 : Nat) (B2 : Option Addr) (c2 : Nat) (p : Nat) (N : Nat) (Ab : Option Addr) (cb : Nat) (y : List UInt8) (b6 g : Nat) (M : List UInt8) (k : Nat) (W : World) : Prop := PEBd w x L l B c L2 l2 B2 c2 p N Ab y b6 g M k W ∧
  TwoB W w.heap.size x L l B c ∧ TwoB W g x L2 l2 B2 c2 ∧
  W.cell? ⟨g + 1, 0, none⟩ = some (.int .i64 0) ∧ W.cell? ⟨b6, 0, none⟩ = some (.pointer (some ⟨p, 0, none⟩)) ∧ (convert 22 9 (.slice Ab y.length cb)).run Tryz.prog W = .ok (.string (S y)) W
theorem PEBd.all {g l2 c2 : Nat} {L2 B2 : Option Addr} (h : PEBd w x L l B c L2 l2 B2 c2 p N Ab y b6 g M k W) (cb : Nat) : PEBdc w x L l B c L2 l2 B2 c2 p N Ab cb y b6 g M k W :=
  ⟨h, h.a.bx.bd, h.yb.bd, h.st.cell 0, h.a.pt.cell 0, str_any h.a.ly cb 9 Tryz.underlying9⟩
end
/-- The boxed input and the tables. -/
structure PStBd (w : World) (x : Bd) (L : Option Addr) (l : Nat) (B : Option Addr) (c : Nat) (W : World) : Prop where
  tb : Tabs W
  bx : BxBd w w.heap.size x L l B c W
theorem PStBd.on {w W W' : World} {x : Bd} {L : Option Addr} {l : Nat} {B : Option Addr} {c : Nat} (h : PStBd w x L l B c W) (hb : Below W.heap.size W W') : PStBd w x L l B c W' := ⟨h.tb.below hb, bxBd_on h.bx hb⟩
/-- .. seen from a later world, with its cells. -/
abbrev PStB2 (w : World) (x : Bd) (L : Option Addr) (l : Nat) (B : Option Addr) (c : Nat) (W0 W : World) : Prop := (Below W0.heap.size W0 W ∧ PStBd w x L l B c W) ∧ TwoB W w.heap.size x L l B c
theorem pst2_on {w W0 W W' : World} {x : Bd} {L : Option Addr} {l : Nat} {B : Option Addr} {c : Nat} (h : PStB2 w x L l B c W0 W) (hb : Below W.heap.size W W') : PStB2 w x L l B c W0 W' :=
  ⟨⟨h.1.1.trans (hb.mono h.1.1.size), h.1.2.on hb⟩, (bxBd_on h.1.2.bx hb).2⟩
theorem much_no {l : List I} (h : muchZ l = false) : ∀ i ∈ l, i.l.length ≤ 50 := fun i hi => by
  unfold muchZ at h
  have := List.any_eq_false.1 h i hi
  simpa using this
set_option maxHeartbeats 8000000 in
theorem lawBdP {w : World} {x : Bd} {L : Option Addr} {l : Nat} {B : Option Addr} {c : Nat} (hT : Tabs w) (hl : Los w L x.ls) (hi : Ins w B x.b) (ho : ∀ i ∈ x.b, i.Ok ∧ (i.l.length : Int) ≤ 9223372036854775807) (nb : (x.b.length : Int) ≤ 9223372036854775807) (nl : (x.ls.length : Int) ≤ 9223372036854775807) :
    Calls Tryz.prog 7 #[bdV x L l B c] w fun e w' => e = .returned (.bool true) ∧ Below w.heap.size w w' := by
  have HTw := Lib.hid hT
  have h0 : PStBd w x L l B c (w.alloc (.cells (bdC x L l B c) 70)) := ⟨hT.below (below_box _ _), bxBd_start w x L l B c⟩
  have HAW := Lib.hid (bdawake_any _ h0.tb)
  have H0 := Lib.hid h0
  clear h0
  by_cases g0 : 60 < x.b.length
  · have t4 : decide ((60 : Int) < (x.b.length : Int)) = true := decide_eq_true (by omega)
    clear g0 hT hl hi ho
    go_enter Tryz.func7, Tryz.ntmps7
    go_wp2_with (go_at_call 31; go_must ((with_reducible refine HAW.out.mono ?_); rintro e w1 ⟨rfl, hb⟩; have H1 := Lib.hid (H0.out.on hb); obtain ⟨c0, c1⟩ := H1.out.bx.2; clear hb))
    go_ret
    exact ⟨rfl, bxBd_bel H1.out.bx⟩
  have t4 : decide ((60 : Int) < (x.b.length : Int)) = false := decide_eq_false (by omega)
  have h60 : x.b.length ≤ 60 := by omega
  clear g0
  by_cases g1 : 50 < x.ls.length
  · have t5 : decide ((50 : Int) < (x.ls.length : Int)) = true := decide_eq_true (by omega)
    clear g1 hT hl hi ho
    go_enter Tryz.func7, Tryz.ntmps7
    go_wp2_with (go_at_call 31; go_must ((with_reducible refine HAW.out.mono ?_); rintro e w1 ⟨rfl, hb⟩; have H1 := Lib.hid (H0.out.on hb); obtain ⟨c0, c1⟩ := H1.out.bx.2; clear hb))
    go_ret
    exact ⟨rfl, bxBd_bel H1.out.bx⟩
  have t5 : decide ((50 : Int) < (x.ls.length : Int)) = false := decide_eq_false (by omega)
  have h50 : x.ls.length ≤ 50 := by omega
  clear g1
  have HMu := Lib.hid (fun W (hb : Below w.heap.size w W) => rmuch_any (L := L) (l := l) (c := c) (hi.below hb) nb)
  by_cases g2 : muchZ x.b = true
  · rw [g2] at HMu
    clear g2 hT hl hi ho
    go_enter Tryz.func7, Tryz.ntmps7
    go_wp2_with (first
      | (go_at_call 31; go_must ((with_reducible refine HAW.out.mono ?_); rintro e w1 ⟨rfl, hb⟩; have H1 := Lib.hid (H0.out.on hb); obtain ⟨c0, c1⟩ := H1.out.bx.2; clear hb))
      | (go_at_call 32; go_must ((with_reducible refine (HMu.out _ (bxBd_bel H1.out.bx)).mono ?_); rintro e w2 ⟨rfl, hb⟩; clear c0 c1; have H2 := Lib.hid (H1.out.on hb); obtain ⟨c0, c1⟩ := H2.out.bx.2; clear hb)))
    go_ret
    exact ⟨rfl, bxBd_bel H2.out.bx⟩
  have g3 : muchZ x.b = false := by simpa using g2
  rw [g3] at HMu
  have hm := much_no g3
  have hok : BdOk x := ⟨fun i h => ⟨(ho i h).1, hm i h⟩, h50, h60⟩
  clear g2 g3
  have HRR := Lib.hid (fun W (hb : Below w.heap.size w W) => rbright_any (l := l) (c := c) (hl.below hb) (hi.below hb) nl (by omega) ho)
  have HRS := Lib.hid (fun W (hb : Below w.heap.size w W) => rbshape_any (l := l) (c := c) (hl.below hb) (hi.below hb) nl (by omega))
  have HIR := Lib.hid (fun W (h : Tabs W) (hb : Below w.heap.size w W) => bright_any (l := l) (c := c) h (hl.below hb) (hi.below hb) (by omega) (by omega))
  obtain ⟨ys, hys⟩ : ∃ ys, ys = (if brZ x = 0 then codeL x else []) := ⟨_, rfl⟩
  have HPU := Lib.hid (fun W (h : Tabs W) (hb : Below w.heap.size w W) => show Calls Tryz.prog 34 #[bdV x L l B c] W fun e w' => ∃ v, e = .returned (.tuple #[v, .int .i64 (brZ x)]) ∧ Row w' W.heap.size v ys ∧ Below W.heap.size W w' from by rw [hys]; exact put_bd h (hl.below hb) (hi.below hb) h50 h60 hok.ok100)
  have HYS := Lib.hid hys
  have HOK := Lib.hid hok
  have HLW := Lib.hid hl
  have HIW := Lib.hid hi
  obtain ⟨z, hz⟩ : ∃ z, z = brZ x := ⟨_, rfl⟩
  have HZ := Lib.hid hz
  rw [← hz] at HRR HPU
  obtain ⟨zs, hzs⟩ : ∃ zs, zs = bshZ x := ⟨_, rfl⟩
  rw [← hzs] at HRS HIR
  clear hz hzs hys hok hT hl hi ho hm
  go_enter Tryz.func7, Tryz.ntmps7
  go_upto_region 7 with (first
    | (go_at_call 31; go_must ((with_reducible refine HAW.out.mono ?_); rintro e w1 ⟨rfl, hb⟩; have H1 := Lib.hid (H0.out.on hb); obtain ⟨c0, c1⟩ := H1.out.bx.2; clear hb))
    | (go_at_call 32; go_must ((with_reducible refine (HMu.out _ (bxBd_bel H1.out.bx)).mono ?_); rintro e w2 ⟨rfl, hb⟩; clear c0 c1; have H2 := Lib.hid (H1.out.on hb); obtain ⟨c0, c1⟩ := H2.out.bx.2; clear hb))
    | (go_at_call 33; go_must ((with_reducible refine (HRR.out _ (bxBd_bel H2.out.bx)).mono ?_); rintro e w3 ⟨rfl, hb⟩; clear c0 c1; have H3 := Lib.hid (H2.out.on hb); obtain ⟨c0, c1⟩ := H3.out.bx.2; clear hb))
    | (go_at_call 34; go_must ((with_reducible refine (HPU.out _ H3.out.tb (bxBd_bel H3.out.bx)).mono ?_); intro e w4 hq; obtain ⟨v, rfl, hr, hb⟩ := hq; obtain ⟨Ab, cb, rfl, hpc⟩ := hr.pc; clear c0 c1; have H4 := Lib.hid (H3.out.on hb); have HP4 := Lib.hid hpc; obtain ⟨c0, c1⟩ := H4.out.bx.2; clear hb hr hpc)))
  clear H0 H1 H2 H3 HAW HMu HRR HPU c0 c1
  refine wp_region_noPanic ?_
  refine wp_region_held_drew (S := fun W => PStB2 w x L l B c w4 W) (by kernel_rfl) (pst2_on ⟨⟨Below.refl _ _, H4.out⟩, H4.out.bx.2⟩ (Below.refl _ _).drew) (fun hHeld => ?_)
  (refine heldTake (i := 0) (oi := { dst := some 32, op := Op.load 70 (Operand.tmp 1), type := 70, pos := "law.go:29", after := #[], guard := none }) (v := ?_) rfl (by kernel_rfl) (by kernel_rfl) (by kernel_rfl) (by assumption) ?_ ?_; rotate_left; focus (refine .inl ⟨by kernel_rfl, ?_⟩; intro w hSw; (try dsimp only at hSw); go_simp; (try with_reducible rfl)); (try simp only [Act.put, List.setIfInBounds_toArray, List.set_cons_zero, List.set_cons_succ]))
  (refine heldTake (i := 2) (oi := { dst := some 34, op := Op.load 70 (Operand.tmp 1), type := 70, pos := "law.go:29", after := #[], guard := none }) (v := ?_) rfl (by kernel_rfl) (by kernel_rfl) (by kernel_rfl) (by assumption) ?_ ?_; rotate_left; focus (refine .inl ⟨by kernel_rfl, ?_⟩; intro w hSw; (try dsimp only at hSw); go_simp; (try with_reducible rfl)); (try simp only [Act.put, List.setIfInBounds_toArray, List.set_cons_zero, List.set_cons_succ]))
  refine wpAnyH_ready (rs := [1]) (by kernel_rfl) (by simp) ?_
  refine AllReadyH.cons (o := { dst := some 33, op := Op.call { callee := Callee.value (Operand.func 35), args := #[Operand.tmp 32], argTypes := #[70] }, type := 30, pos := "law.go:29", after := #[{ on := 0, ground := Ground.data }], guard := none }) rfl (fun K hK => ?_) AllReadyH.nil
  go_simp
  (go_at_call 35; (with_reducible refine (HIR.out _ (And.left hHeld).2.tb (bxBd_bel (And.left hHeld).2.bx)).mono ?_); rintro e w5 ⟨rfl, hb⟩; have hk5 := pst2_on hHeld hb; clear hb)
  refine hK.out _ _ hk5 (fun hHeld1 => ?_)
  clear hK K hHeld
  (try simp only [Act.put, List.setIfInBounds_toArray, List.set_cons_zero, List.set_cons_succ])
  refine wpAnyH_ready (rs := [3]) (by kernel_rfl) (by simp) ?_
  refine AllReadyH.cons (o := { dst := some 35, op := Op.call { callee := Callee.value (Operand.func 36), args := #[Operand.tmp 34], argTypes := #[70] }, type := 3, pos := "law.go:29", after := #[{ on := 2, ground := Ground.data }, { on := 1, ground := Ground.chain }], guard := none }) rfl (fun K hK => ?_) AllReadyH.nil
  go_simp
  (go_at_call 36; (with_reducible refine (HRS.out _ (bxBd_bel (And.left hHeld1).2.bx)).mono ?_); rintro e w6 ⟨rfl, hb⟩; have hk6 := pst2_on hHeld1 hb; clear hb)
  refine hK.out _ _ hk6 (fun hHeld3 => ?_)
  clear hK K hHeld1
  (try simp only [Act.put, List.setIfInBounds_toArray, List.set_cons_zero, List.set_cons_succ])
  (refine heldTake (i := 4) (oi := { dst := some 36, op := Op.binOp BinOp.neq 3 (Operand.tmp 33) (Operand.tmp 35) 3, type := 4, pos := "law.go:29", after := #[{ on := 1, ground := Ground.data }, { on := 3, ground := Ground.data }], guard := none }) (v := ?_) rfl (by kernel_rfl) (by kernel_rfl) (by kernel_rfl) (by assumption) ?_ ?_; rotate_left; focus (refine .inl ⟨by kernel_rfl, ?_⟩; intro w hSw; (try dsimp only at hSw); go_simp; (try with_reducible rfl)); (try simp only [Act.put, List.setIfInBounds_toArray, List.set_cons_zero, List.set_cons_succ]))
  (refine heldTake (i := 5) (oi := { dst := some 37, op := Op.move (Operand.tmp 36), type := 4, pos := "law.go:29", after := #[{ on := 4, ground := Ground.data }, { on := 3, ground := Ground.chain }], guard := none }) (v := ?_) rfl (by kernel_rfl) (by kernel_rfl) (by kernel_rfl) (by assumption) ?_ ?_; rotate_left; focus (refine .inl ⟨by kernel_rfl, ?_⟩; intro w hSw; (try dsimp only at hSw); go_simp; (try with_reducible rfl)); (try simp only [Act.put, List.setIfInBounds_toArray, List.set_cons_zero, List.set_cons_succ]))
  (refine heldTake (i := 6) (oi := { dst := some 38, op := Op.move (Operand.tmp 5), type := 30, pos := "law.go:29", after := #[{ on := 5, ground := Ground.guard }], guard := some (5, false) }) (v := ?_) rfl (by kernel_rfl) (by kernel_rfl) (by kernel_rfl) (by assumption) ?_ ?_; rotate_left; focus (refine .inl ⟨by kernel_rfl, ?_⟩; intro w hSw; (try dsimp only at hSw); go_simp; (try with_reducible rfl)); (try simp only [Act.put, List.setIfInBounds_toArray, List.set_cons_zero, List.set_cons_succ]))
  (refine heldTake (i := 7) (oi := { dst := some 39, op := Op.move (Operand.tmp 3), type := 3, pos := "law.go:29", after := #[{ on := 5, ground := Ground.guard }], guard := some (5, false) }) (v := ?_) rfl (by kernel_rfl) (by kernel_rfl) (by kernel_rfl) (by assumption) ?_ ?_; rotate_left; focus (refine .inl ⟨by kernel_rfl, ?_⟩; intro w hSw; (try dsimp only at hSw); go_simp; (try with_reducible rfl)); (try simp only [Act.put, List.setIfInBounds_toArray, List.set_cons_zero, List.set_cons_succ]))
  (refine heldTake (i := 8) (oi := { dst := some 40, op := Op.binOp BinOp.neq 3 (Operand.tmp 38) (Operand.tmp 39) 3, type := 4, pos := "law.go:29", after := #[{ on := 6, ground := Ground.data }, { on := 7, ground := Ground.data }, { on := 5, ground := Ground.guard }], guard := some (5, false) }) (v := ?_) rfl (by kernel_rfl) (by kernel_rfl) (by kernel_rfl) (by assumption) ?_ ?_; rotate_left; focus (refine .inl ⟨by kernel_rfl, ?_⟩; intro w hSw; (try dsimp only at hSw); go_simp; (try with_reducible rfl)); (try simp only [Act.put, List.setIfInBounds_toArray, List.set_cons_zero, List.set_cons_succ]))
  (refine heldTake (i := 9) (oi := { dst := some 41, op := Op.pick (Operand.tmp 37) (Operand.const (Value.bool true)) (Operand.tmp 40), type := 4, pos := "law.go:29", after := #[{ on := 5, ground := Ground.data }, { on := 8, ground := Ground.data }], guard := none }) (v := ?_) rfl (by kernel_rfl) (by kernel_rfl) (by kernel_rfl) (by assumption) ?_ ?_; rotate_left; focus (refine .inl ⟨by kernel_rfl, ?_⟩; intro w hSw; (try dsimp only at hSw); go_simp; (try with_reducible rfl)); (try simp only [Act.put, List.setIfInBounds_toArray, List.set_cons_zero, List.set_cons_succ]))
  refine wpAnyH_done (by kernel_rfl) ?_ _
  refine NoPanic.normal ?_
  have hLast := hHeld3
  clear hHeld3
  have H6 := Lib.hid hLast.1.2
  have HP6 := Lib.hid (HP4.out.below hLast.1.1)
  obtain ⟨d0, d1⟩ := hLast.2
  clear hk5 hk6 hLast H4 HP4 HIR HRS
  by_cases hz0 : z = 0
  · subst hz0
    have hr0 : brZ x = 0 := HZ.out.symm
    have hyc : ys = codeL x := by rw [HYS.out, if_pos hr0]
    have hcl := codeL_len HOK.out
    rw [← hyc] at hcl
    have hrz := (brZ_zero hr0).2.2.2
    have HRP := Lib.hid (fun W (hb : Below w.heap.size w W) => show Calls Tryz.prog 40 #[bdV x L l B c] W (StrPost ys W) from by rw [hyc]; exact rbput_any (HLW.out.below hb) (HIW.out.below hb) h50 h60 HOK.out.ok100 hrz)
    have HGT := Lib.hid (fun W p M r k (h : Sc W p M k) (hT : TbP p W) (hl : M.length ≤ 1000000) (hd : M.drop k = ys ++ r) => show Calls Tryz.prog 39 #[.pointer (some ⟨p, 0, none⟩)] W (GotBd p M x (k + ys.length) W) from by rw [hyc] at hd ⊢; exact get_bd h hT hr0 HOK.out hl hd)
    have HSm := Lib.hid (fun W (L2 : Option Addr) (l2 : Nat) (B2 : Option Addr) (c2 : Nat) (h1 : Los W L2 x.ls ∧ Ins W B2 x.b) (h2 : Below w.heap.size w W) => rsame_bd (w := W) (x := x) (L := L2) (l := l2) (B := B2) (c := c2) (M := L) (m := l) (D := B) (d := c) h1.1 (HLW.out.below h2) h1.2 (HIW.out.below h2) nl (by omega) (fun i hi => (HOK.out.ok100 i hi).2))
    clear hr0 hyc hrz HYS HZ
    obtain ⟨y, hy⟩ : ∃ y, y = ys := ⟨_, rfl⟩
    rw [← hy] at HRP hcl HGT HP6 ⊢
    clear hy
    have hl7 : (([] ++ y) ++ [7]).length ≤ 1000000 := by simp only [List.length_append, List.length_singleton, List.length_nil]; omega
    have hl7' : ([] ++ y : List UInt8).length + ([7] : List UInt8).length ≤ 1000000 := by simp only [List.length_append, List.length_singleton, List.length_nil]; omega
    have hl0 : ([] : List UInt8).length + y.length ≤ 1000000 := by simp only [List.length_nil]; omega
    have HD := Lib.hid (show (([] ++ y) ++ [7] : List UInt8).drop 0 = y ++ [7] from by simp)
    have HLf := Lib.hid (fun W p (h : Sc W p (([] ++ y) ++ [7]) y.length) => by
      have h2 := left_any h
      have e : (((([] ++ y) ++ [7] : List UInt8).length : Int) - (y.length : Int)) = 1 := by simp only [List.length_append, List.length_singleton, List.length_nil]; omega
      rw [e] at h2
      exact h2)
    obtain ⟨M, hM⟩ : ∃ M, M = (([] ++ y) ++ [7] : List UInt8) := ⟨_, rfl⟩
    have hM0 : 0 < M.length := by rw [hM, List.length_append, List.length_singleton]; omega
    rw [← hM] at hl7 HD HLf
    have HLd := Lib.hid hM
    clear hM
    go_upto_region 11 with fail
    have R0 := Lib.hid (Row.made w6 [] w6.heap.size w6.heap.size rfl (Nat.le_refl _) (by simp))
    have HP6' := Lib.hid (HP6.out.below (below_box w6 (.cells #[] 5)))
    have hB6 : w6.heap.size ≤ (w6.alloc (.cells #[] 5)).heap.size := (below_box w6 _).size
    go_upto_region 12 with (first
      | (go_at_call 9; go_must ((with_reducible refine (over_ok HP8.out.lies hM0 hl7).mono ?_); intro e w9 hq; obtain ⟨p, rfl, hpp, hs, hb⟩ := hq; have HS9 := Lib.hid hs; have HB9 := Lib.hid (HB8.out.trans (hb.mono HB8.out.size)); have HB89 := Lib.hid hb; clear hs hb))
      | (have tok := HR7; at_builtin; go_must (refine row_any rfl _ _ rfl w6.heap.size _ ([] ++ y) rfl (HR7.out.later (below_box w7 (.cells #[.int .u8 7] 5))) (some ⟨w7.heap.size, 0, none⟩) 1 1 _ [7] rfl rfl (lies_made w7 [7] (0, 0)) (fun e => by cases e) hl7' (Nat.le_trans HB7.out.size (below_box w7 _).size) ?_; intro v8 w8 hr8 hb8; rw [← HLd.out] at hr8; obtain ⟨A8, c8', rfl, hpc8⟩ := hr8.pc; have HB8 := Lib.hid ((HB7.out.trans ((below_box w7 (.cells #[.int .u8 7] 5)).mono HB7.out.size)).trans hb8); have HP8 := Lib.hid hpc8; clear hr8 hb8 hpc8))
      | (at_builtin; go_must (refine row_any rfl _ _ rfl w6.heap.size _ [] rfl R0.out Ab y.length cb _ y rfl rfl HP6'.out.lies HP6'.out.nil hl0 hB6 ?_; intro v7 w7 hr7 hb7; have HR7 := Lib.hid hr7; have HB7 := Lib.hid ((below_box w6 (.cells #[] 5)).trans hb7); clear hr7 hb7)))
    have hx6 := H6.out.bx.1.1.lt
    have h68 := HB8.out.size
    have h9p := HS9.out.lt
    have hpk : PKBd w x L l B c p w8.heap.size Ab y w9.heap.size (w9.alloc (.cells #[.pointer (some ⟨p, 0, none⟩)] 24)) :=
      ⟨((H6.out.bx.1.1.below HB9.out).alloc _), ((HP6.out.below HB8.out).lies.below (HB89.out.trans ((below_box w9 _).mono HB89.out.size)) (Nat.le_refl _)), Whole.made _ _ _,
        (bxBd_bel H6.out.bx).trans ((HB9.out.trans ((below_box w9 _).mono HB9.out.size)).mono (bxBd_bel H6.out.bx).size), by omega, hpp, h9p, Nat.le_trans HB89.out.size (below_box w9 _).size⟩
    have HPK := Lib.hid hpk
    have HS10 := Lib.hid (HS9.out.alloc (.cells #[.pointer (some ⟨p, 0, none⟩)] 24))
    have hb6 : w9.heap.size < (w9.alloc (.cells #[.pointer (some ⟨p, 0, none⟩)] 24)).heap.size := hpk.pt.lt
    clear R0 HP6' HR7 HB7 HB8 HP8 HP6 H6 HB9 HB89 HS9 hpk hl7' hl0 hB6
    generalize w9.alloc (.cells #[.pointer (some ⟨p, 0, none⟩)] 24) = W8 at *
    generalize w9.heap.size = b6 at *
    have HV := Lib.hid (valueBd_ok (T := fun q W => q.1 = x ∧ HasBd W (W8.heap.size + 5) q ∧ PKBd w x L l B c p w8.heap.size Ab y b6 W ∧ Sc W p M y.length) (cfBd1 #[.pointer (some ⟨b6, 0, none⟩)]) (q := p) (w := W8) (by omega)
      (fun q W W' b h1 h2 h3 hg => ⟨h3.1, h3.2.1.past hg h2, h3.2.2.1.grown hg (by omega) (by omega), h3.2.2.2.grown hg (by simp only [ne_eq, Option.some.injEq]; omega) (fun g e => by injection e with e; omega)⟩)
      (fun W hb hsz => by
        have hW := HPK.out.below hb
        have hS := HS10.out.below hb
        refine (closBd1 (x := x) (l := M) (k := y.length) hW.pt (fun W2 hb2 => ?_) hS.lt).mono ?_
        · have h2 := HGT.out W2 p M [7] 0 (hS.below hb2) (show TbP p W2 from ⟨w, HTw.out, Nat.le_of_lt hW.o1, (hW.below hb2).bel⟩) hl7 HD.out
          rw [Nat.zero_add] at h2
          exact h2
        · rintro e w' ⟨s, hsx, rfl, hh, hs, hg⟩
          exact ⟨s, rfl, ⟨hsx, hh.mono hsz, hW.grown hg (Nat.le_refl _) (by omega), hs⟩, hg⟩))
    clear HGT HTw
    go_upto_region 13 with (go_at_call 37; go_must ((with_reducible refine HV.out.mono ?_); rintro e w11 ⟨⟨q, ⟨L2, l2⟩, ⟨B2, c2⟩⟩, rfl, ⟨hqx, hlq, hpk, hs⟩, hg⟩; obtain rfl : q = x := hqx; have HPE := Lib.hid (show PEBd w q L l B c L2 l2 B2 c2 p w8.heap.size Ab y b6 w11.heap.size M y.length ((w11.alloc (.cells (bdC q L2 l2 B2 c2) 70)).alloc (.cells #[.int .i64 0, .int .i64 0] 32)) from ⟨(hpk.below (below_box _ _)).below (below_box _ _), (hs.alloc _).alloc _, (Whole.made _ _ _).alloc _, (made_2 w11 _ _ _), ((hlq.ins.1.below (below_box _ _)).below (below_box _ _)), ((hlq.ins.2.below (below_box _ _)).below (below_box _ _))⟩); clear hpk hs hg hlq))
    generalize (w11.alloc (.cells (bdC q L2 l2 B2 c2) 70)).alloc (.cells #[.int .i64 0, .int .i64 0] 32) = W9 at *
    refine wp_region_noPanic ?_
    refine wp_region_held_drew (S := fun W => PEBdc w q L l B c L2 l2 B2 c2 p w8.heap.size Ab cb y b6 w11.heap.size M y.length W) (by kernel_rfl) ((HPE.out.below (Below.refl _ _).drew).all cb) (fun hHeld => ?_)
    (refine heldTake (i := 0) (oi := { dst := some 58, op := Op.move (Operand.tmp 4), type := 22, pos := "law.go:37", after := #[], guard := none }) (v := ?_) rfl (by kernel_rfl) (by kernel_rfl) (by kernel_rfl) (by assumption) ?_ ?_; rotate_left; focus (refine .inl ⟨by kernel_rfl, ?_⟩; intro w hSw; (try dsimp only at hSw); go_simp; (try with_reducible rfl)); (try simp only [Act.put, List.setIfInBounds_toArray, List.set_cons_zero, List.set_cons_succ]))
    (refine heldTake (i := 1) (oi := { dst := some 59, op := Op.convert 22 9 (Operand.tmp 58), type := 9, pos := "law.go:37", after := #[{ on := 0, ground := Ground.data }], guard := none }) (v := ?_) rfl (by kernel_rfl) (by kernel_rfl) (by kernel_rfl) (by assumption) ?_ ?_; rotate_left; focus (refine .inl ⟨by kernel_rfl, ?_⟩; intro w hSw; (try dsimp only at hSw); go_simp; (try with_reducible rfl)); (try simp only [Act.put, List.setIfInBounds_toArray, List.set_cons_zero, List.set_cons_succ]))
    (refine heldTake (i := 2) (oi := { dst := some 60, op := Op.load 70 (Operand.tmp 1), type := 70, pos := "law.go:37", after := #[], guard := none }) (v := ?_) rfl (by kernel_rfl) (by kernel_rfl) (by kernel_rfl) (by assumption) ?_ ?_; rotate_left; focus (refine .inl ⟨by kernel_rfl, ?_⟩; intro w hSw; (try dsimp only at hSw); go_simp; (try with_reducible rfl)); (try simp only [Act.put, List.setIfInBounds_toArray, List.set_cons_zero, List.set_cons_succ]))
    refine wpAnyH_ready (rs := [3]) (by kernel_rfl) (by simp) ?_
    refine AllReadyH.cons (o := { dst := some 61, op := Op.call { callee := Callee.value (Operand.func 40), args := #[Operand.tmp 60], argTypes := #[70] }, type := 9, pos := "law.go:37", after := #[{ on := 2, ground := Ground.data }], guard := none }) rfl (fun K hK => ?_) AllReadyH.nil
    go_simp
    (go_at_call 40; (with_reducible refine (HRP.out _ (And.left hHeld).a.bel).mono ?_); rintro e w12 ⟨rfl, hb⟩; have hk10 := (PEBd.below (And.left hHeld) hb).all cb; clear hb)
    refine hK.out _ _ hk10 (fun hHeld3 => ?_)
    clear hK K hHeld
    (try simp only [Act.put, List.setIfInBounds_toArray, List.set_cons_zero, List.set_cons_succ])
    (refine heldTake (i := 4) (oi := { dst := some 62, op := Op.binOp BinOp.eql 9 (Operand.tmp 59) (Operand.tmp 61) 9, type := 4, pos := "law.go:37", after := #[{ on := 1, ground := Ground.data }, { on := 3, ground := Ground.data }], guard := none }) (v := ?_) rfl (by kernel_rfl) (by kernel_rfl) (by kernel_rfl) (by assumption) ?_ ?_; rotate_left; focus (refine .inl ⟨by kernel_rfl, ?_⟩; intro w hSw; (try dsimp only at hSw); go_simp; (try with_reducible rfl)); (try simp only [Act.put, List.setIfInBounds_toArray, List.set_cons_zero, List.set_cons_succ]))
    (refine heldTake (i := 5) (oi := { dst := some 63, op := Op.move (Operand.tmp 62), type := 4, pos := "law.go:37", after := #[{ on := 4, ground := Ground.data }, { on := 3, ground := Ground.chain }], guard := none }) (v := ?_) rfl (by kernel_rfl) (by kernel_rfl) (by kernel_rfl) (by assumption) ?_ ?_; rotate_left; focus (refine .inl ⟨by kernel_rfl, ?_⟩; intro w hSw; (try dsimp only at hSw); go_simp; (try with_reducible rfl)); (try simp only [Act.put, List.setIfInBounds_toArray, List.set_cons_zero, List.set_cons_succ]))
    (refine heldTake (i := 6) (oi := { dst := some 64, op := Op.fieldAddr 32 (Operand.tmp 8) 0, type := 0, pos := "law.go:37", after := #[{ on := 5, ground := Ground.guard }], guard := some (5, true) }) (v := ?_) rfl (by kernel_rfl) (by kernel_rfl) (by kernel_rfl) (by assumption) ?_ ?_; rotate_left; focus (refine .inl ⟨by kernel_rfl, ?_⟩; intro w hSw; (try dsimp only at hSw); go_simp; (try with_reducible rfl)); (try simp only [Act.put, List.setIfInBounds_toArray, List.set_cons_zero, List.set_cons_succ]))
    (refine heldTake (i := 7) (oi := { dst := some 65, op := Op.load 30 (Operand.tmp 64), type := 30, pos := "law.go:37", after := #[{ on := 6, ground := Ground.data }, { on := 5, ground := Ground.guard }], guard := some (5, true) }) (v := ?_) rfl (by kernel_rfl) (by kernel_rfl) (by kernel_rfl) (by assumption) ?_ ?_; rotate_left; focus (refine .inl ⟨by kernel_rfl, ?_⟩; intro w hSw; (try dsimp only at hSw); go_simp; (try with_reducible rfl)); (try simp only [Act.put, List.setIfInBounds_toArray, List.set_cons_zero, List.set_cons_succ]))
    (refine heldTake (i := 8) (oi := { dst := some 66, op := Op.binOp BinOp.eql 30 (Operand.tmp 65) (Operand.const (Value.int IntKind.i64 0)) 30, type := 4, pos := "law.go:37", after := #[{ on := 7, ground := Ground.data }, { on := 5, ground := Ground.guard }], guard := some (5, true) }) (v := ?_) rfl (by kernel_rfl) (by kernel_rfl) (by kernel_rfl) (by assumption) ?_ ?_; rotate_left; focus (refine .inl ⟨by kernel_rfl, ?_⟩; intro w hSw; (try dsimp only at hSw); go_simp; (try with_reducible rfl)); (try simp only [Act.put, List.setIfInBounds_toArray, List.set_cons_zero, List.set_cons_succ]))
    (refine heldTake (i := 9) (oi := { dst := some 67, op := Op.pick (Operand.tmp 63) (Operand.tmp 66) (Operand.const (Value.bool false)), type := 4, pos := "law.go:37", after := #[{ on := 5, ground := Ground.data }, { on := 8, ground := Ground.data }], guard := none }) (v := ?_) rfl (by kernel_rfl) (by kernel_rfl) (by kernel_rfl) (by assumption) ?_ ?_; rotate_left; focus (refine .inl ⟨by kernel_rfl, ?_⟩; intro w hSw; (try dsimp only at hSw); go_simp; (try with_reducible rfl)); (try simp only [Act.put, List.setIfInBounds_toArray, List.set_cons_zero, List.set_cons_succ]))
    (refine heldTake (i := 10) (oi := { dst := some 68, op := Op.move (Operand.tmp 67), type := 4, pos := "law.go:37", after := #[{ on := 9, ground := Ground.data }, { on := 5, ground := Ground.chain }], guard := none }) (v := ?_) rfl (by kernel_rfl) (by kernel_rfl) (by kernel_rfl) (by assumption) ?_ ?_; rotate_left; focus (refine .inl ⟨by kernel_rfl, ?_⟩; intro w hSw; (try dsimp only at hSw); go_simp; (try with_reducible rfl)); (try simp only [Act.put, List.setIfInBounds_toArray, List.set_cons_zero, List.set_cons_succ]))
    (refine heldTake (i := 11) (oi := { dst := some 69, op := Op.load 70 (Operand.tmp 7), type := 70, pos := "law.go:37", after := #[{ on := 10, ground := Ground.guard }], guard := some (10, true) }) (v := ?_) rfl (by kernel_rfl) (by kernel_rfl) (by kernel_rfl) (by assumption) ?_ ?_; rotate_left; focus (refine .inl ⟨by kernel_rfl, ?_⟩; intro w hSw; (try dsimp only at hSw); go_simp; (try with_reducible rfl)); (try simp only [Act.put, List.setIfInBounds_toArray, List.set_cons_zero, List.set_cons_succ]))
    (refine heldTake (i := 12) (oi := { dst := some 70, op := Op.load 70 (Operand.tmp 1), type := 70, pos := "law.go:37", after := #[{ on := 10, ground := Ground.guard }], guard := some (10, true) }) (v := ?_) rfl (by kernel_rfl) (by kernel_rfl) (by kernel_rfl) (by assumption) ?_ ?_; rotate_left; focus (refine .inl ⟨by kernel_rfl, ?_⟩; intro w hSw; (try dsimp only at hSw); go_simp; (try with_reducible rfl)); (try simp only [Act.put, List.setIfInBounds_toArray, List.set_cons_zero, List.set_cons_succ]))
    refine wpAnyH_ready (rs := [13]) (by kernel_rfl) (by simp) ?_
    refine AllReadyH.cons (o := { dst := some 71, op := Op.call { callee := Callee.value (Operand.func 41), args := #[Operand.tmp 69, Operand.tmp 70], argTypes := #[70, 70] }, type := 4, pos := "law.go:37", after := #[{ on := 11, ground := Ground.data }, { on := 12, ground := Ground.data }, { on := 10, ground := Ground.chain }, { on := 10, ground := Ground.guard }], guard := some (10, true) }) rfl (fun K hK => ?_) AllReadyH.nil
    go_simp
    (go_at_call 41; (with_reducible refine (HSm.out _ _ _ _ _ (And.left hHeld3).ylf (And.left hHeld3).a.bel).mono ?_); rintro e w13 ⟨rfl, hb⟩; have hk11 := (PEBd.below (And.left hHeld3) hb).all cb; clear hb)
    refine hK.out _ _ hk11 (fun hHeld13 => ?_)
    clear hK K hHeld3
    (try simp only [Act.put, List.setIfInBounds_toArray, List.set_cons_zero, List.set_cons_succ])
    (refine heldTake (i := 14) (oi := { dst := some 72, op := Op.pick (Operand.tmp 68) (Operand.tmp 71) (Operand.const (Value.bool false)), type := 4, pos := "law.go:37", after := #[{ on := 10, ground := Ground.data }, { on := 13, ground := Ground.data }], guard := none }) (v := ?_) rfl (by kernel_rfl) (by kernel_rfl) (by kernel_rfl) (by assumption) ?_ ?_; rotate_left; focus (refine .inl ⟨by kernel_rfl, ?_⟩; intro w hSw; (try dsimp only at hSw); go_simp; (try with_reducible rfl)); (try simp only [Act.put, List.setIfInBounds_toArray, List.set_cons_zero, List.set_cons_succ]))
    (refine heldTake (i := 15) (oi := { dst := some 73, op := Op.move (Operand.tmp 72), type := 4, pos := "law.go:37", after := #[{ on := 14, ground := Ground.data }, { on := 13, ground := Ground.chain }], guard := none }) (v := ?_) rfl (by kernel_rfl) (by kernel_rfl) (by kernel_rfl) (by assumption) ?_ ?_; rotate_left; focus (refine .inl ⟨by kernel_rfl, ?_⟩; intro w hSw; (try dsimp only at hSw); go_simp; (try with_reducible rfl)); (try simp only [Act.put, List.setIfInBounds_toArray, List.set_cons_zero, List.set_cons_succ]))
    (refine heldTake (i := 16) (oi := { dst := some 74, op := Op.load 24 (Operand.tmp 6), type := 24, pos := "law.go:37", after := #[{ on := 15, ground := Ground.guard }], guard := some (15, true) }) (v := ?_) rfl (by kernel_rfl) (by kernel_rfl) (by kernel_rfl) (by assumption) ?_ ?_; rotate_left; focus (refine .inl ⟨by kernel_rfl, ?_⟩; intro w hSw; (try dsimp only at hSw); go_simp; (try with_reducible rfl)); (try simp only [Act.put, List.setIfInBounds_toArray, List.set_cons_zero, List.set_cons_succ]))
    refine wpAnyH_ready (rs := [17]) (by kernel_rfl) (by simp) ?_
    refine AllReadyH.cons (o := { dst := some 75, op := Op.call { callee := Callee.value (Operand.func 42), args := #[Operand.tmp 74], argTypes := #[24] }, type := 3, pos := "law.go:37", after := #[{ on := 16, ground := Ground.data }, { on := 15, ground := Ground.chain }, { on := 15, ground := Ground.guard }], guard := some (15, true) }) rfl (fun K hK => ?_) AllReadyH.nil
    go_simp
    (go_at_call 42; (with_reducible refine (HLf.out _ p (And.left hHeld13).sc).mono ?_); rintro e w14 ⟨rfl, m, rfl⟩; have hk12 := (PEBd.below (And.left hHeld13) (below_drewN (Below.refl _ _) m)).all cb)
    refine hK.out _ _ hk12 (fun hHeld17 => ?_)
    clear hK K hHeld13
    (try simp only [Act.put, List.setIfInBounds_toArray, List.set_cons_zero, List.set_cons_succ])
    (refine heldTake (i := 18) (oi := { dst := some 76, op := Op.binOp BinOp.eql 3 (Operand.tmp 75) (Operand.const (Value.int IntKind.i64 1)) 3, type := 4, pos := "law.go:37", after := #[{ on := 17, ground := Ground.data }, { on := 15, ground := Ground.guard }], guard := some (15, true) }) (v := ?_) rfl (by kernel_rfl) (by kernel_rfl) (by kernel_rfl) (by assumption) ?_ ?_; rotate_left; focus (refine .inl ⟨by kernel_rfl, ?_⟩; intro w hSw; (try dsimp only at hSw); go_simp; (try with_reducible rfl)); (try simp only [Act.put, List.setIfInBounds_toArray, List.set_cons_zero, List.set_cons_succ]))
    (refine heldTake (i := 19) (oi := { dst := some 77, op := Op.pick (Operand.tmp 73) (Operand.tmp 76) (Operand.const (Value.bool false)), type := 4, pos := "law.go:37", after := #[{ on := 15, ground := Ground.data }, { on := 18, ground := Ground.data }], guard := none }) (v := ?_) rfl (by kernel_rfl) (by kernel_rfl) (by kernel_rfl) (by assumption) ?_ ?_; rotate_left; focus (refine .inl ⟨by kernel_rfl, ?_⟩; intro w hSw; (try dsimp only at hSw); go_simp; (try with_reducible rfl)); (try simp only [Act.put, List.setIfInBounds_toArray, List.set_cons_zero, List.set_cons_succ]))
    (refine heldTake (i := 20) (oi := { dst := some 2, op := Op.assign (Operand.tmp 77), type := 4, pos := "law.go:37", after := #[{ on := 19, ground := Ground.data }, { on := 17, ground := Ground.chain }, { on := 0, ground := Ground.phase }, { on := 1, ground := Ground.phase }, { on := 2, ground := Ground.phase }, { on := 3, ground := Ground.phase }, { on := 4, ground := Ground.phase }, { on := 5, ground := Ground.phase }, { on := 6, ground := Ground.phase }, { on := 7, ground := Ground.phase }, { on := 8, ground := Ground.phase }, { on := 9, ground := Ground.phase }, { on := 10, ground := Ground.phase }, { on := 11, ground := Ground.phase }, { on := 12, ground := Ground.phase }, { on := 13, ground := Ground.phase }, { on := 14, ground := Ground.phase }, { on := 15, ground := Ground.phase }, { on := 16, ground := Ground.phase }, { on := 17, ground := Ground.phase }, { on := 18, ground := Ground.phase }, { on := 19, ground := Ground.phase }], guard := none }) (v := ?_) rfl (by kernel_rfl) (by kernel_rfl) (by kernel_rfl) (by assumption) ?_ ?_; rotate_left; focus (refine .inl ⟨by kernel_rfl, ?_⟩; intro w hSw; (try dsimp only at hSw); go_simp; (try with_reducible rfl)); (try simp only [Act.put, List.setIfInBounds_toArray, List.set_cons_zero, List.set_cons_succ]))
    refine wpAnyH_done (by kernel_rfl) ?_ _
    refine NoPanic.normal ?_
    have hLast := hHeld17
    clear hHeld17
    go_wp2
    go_ret
    exact ⟨rfl, (And.left hLast).a.bel⟩
  · have dz : (z != 0) = true := zb_of (by simpa using hz0)
    obtain rfl : ys = [] := by rw [HYS.out, ← HZ.out, if_neg hz0]
    clear hz0
    go_wp2
    go_ret
    exact ⟨rfl, bxBd_bel H6.out.bx⟩
end Go.Proofs.YtebgmfjgapmpfaaGreatDoor
