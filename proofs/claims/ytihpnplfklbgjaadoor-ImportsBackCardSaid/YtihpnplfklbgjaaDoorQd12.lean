/- The walk of DylinkPuts. -/
import Derived.Test.YtihpnplfklbgjaaDoorQd11
import Derived.Test.YtihpnplfklbgjaaDoorQd06
import Derived.Test.YtihpnplfklbgjaaDoorQd08
import Derived.BigRegion
import Derived.Deep.CutBlock
import Derived.Deep.DeepCutAuto
namespace Go.Proofs.YtihpnplfklbgjaaDoor
open Go.RowKit
set_option linter.unusedVariables false
set_option maxRecDepth 100000

/-- What the law keeps: the box of its input, the names, the bytes, the scanner's cell. -/
structure PKD (w : World) (x : Dl) (A : Option Addr) (c : Nat) (p : Nat) (B : Nat) (Ab : Option Addr) (y : List UInt8) (b6 : Nat) (W : World) : Prop where
  bx : Whole W w.heap.size 25 (dlC x A c)
  ly : Lies W B Ab (cells (nums y))
  pt : Whole W b6 34 #[.pointer (some ⟨p, 0, none⟩)]
  bel : Below w.heap.size w W
  o1 : w.heap.size < p
  o2 : B ≤ p
  o3 : p < b6
  o4 : B ≤ W.heap.size
section
variable {w W W' : World} {x : Dl} {A A2 : Option Addr} {c c2 p B b6 k k' q : Nat} {l : List UInt8} {Ab : Option Addr} {y : List UInt8}
theorem PKD.grown (h : PKD w x A c p B Ab y b6 W) (hg : W.grownBy W' (some q)) (h1 : p ≤ q) (h2 : b6 ≠ q) : PKD w x A c p B Ab y b6 W' := by
  obtain ⟨a1, a2, a3, a4, a5, a6, a7, a8⟩ := h
  exact ⟨a1.grown hg (by simp only [ne_eq, Option.some.injEq]; omega), a2.grown hg a8 (fun g e => by injection e with e; omega), a3.grown hg (by simp only [ne_eq, Option.some.injEq]; omega), below_new a4 hg (by omega), a5, a6, a7, Nat.le_trans a8 hg.size⟩
theorem PKD.below (h : PKD w x A c p B Ab y b6 W) (hb : Below W.heap.size W W') : PKD w x A c p B Ab y b6 W' := by
  obtain ⟨a1, a2, a3, a4, a5, a6, a7, a8⟩ := h
  exact ⟨a1.below hb, a2.below hb a8, a3.below hb, a4.trans (hb.mono a4.size), a5, a6, a7, Nat.le_trans a8 hb.size⟩
/-- At the law's end. -/
structure PED (w : World) (x : Dl) (A : Option Addr) (c : Nat) (A2 : Option Addr) (c2 : Nat) (p : Nat) (B : Nat) (Ab : Option Addr) (y : List UInt8) (b6 g : Nat) (W : World) : Prop where
  a : PKD w x A c p B Ab y b6 W
  nm : SlT W A2 x.nd
  yb : Whole W g 25 (dlC x A2 c2)
  st : Whole W (g + 1) 37 #[.int .i64 0, .int .i64 0]
theorem PED.below {g : Nat} (h : PED w x A c A2 c2 p B Ab y b6 g W) (hb : Below W.heap.size W W') : PED w x A c A2 c2 p B Ab y b6 g W' := ⟨h.a.below hb, h.nm.below hb, h.yb.below hb, h.st.below hb⟩
/-- .. and what it reads as. -/
abbrev PEDc (w : World) (x : Dl) (A : Option Addr) (c : Nat) (A2 : Option Addr) (c2 : Nat) (p : Nat) (B : Nat) (Ab : Option Addr) (cb : Nat) (y : List UInt8) (b6 g : Nat) (W : World) : Prop := PED w x A c A2 c2 p B Ab y b6 g W ∧
  dl6 W w.heap.size x A c ∧ dl6 W g x A2 c2 ∧ W.cell? ⟨g + 1, 0, none⟩ = some (.int .i64 0) ∧ (convert 29 9 (.slice Ab y.length cb)).run Tryd.prog W = .ok (.string (S y)) W
theorem PED.all {g : Nat} (h : PED w x A c A2 c2 p B Ab y b6 g W) (cb : Nat) : PEDc w x A c A2 c2 p B Ab cb y b6 g W :=
  ⟨h, h.a.bx.dl, h.yb.dl, h.st.cell 0, str_any h.a.ly cb 9 Tryd.underlying9⟩
end
/-- The boxed input, the names and the tables. -/
structure PStD (w : World) (x : Dl) (A : Option Addr) (c : Nat) (W : World) : Prop where
  tb : TabsU W
  nm : SlT W A x.nd
  bx : BxD w w.heap.size x A c W
theorem PStD.on {w W W' : World} {x : Dl} {A : Option Addr} {c : Nat} (h : PStD w x A c W) (hb : Below W.heap.size W W') : PStD w x A c W' := ⟨h.tb.below hb, h.nm.below hb, bxD_on h.bx hb⟩
set_option maxHeartbeats 8000000 in
theorem lawDP {w : World} {x : Dl} {A : Option Addr} {c : Nat} (hT : TabsU w) (hl : SlT w A x.nd) (hnc : x.nd.length ≤ c) :
    Calls Tryd.prog 3 #[dlV x A c] w fun e w' => e = .returned (.bool true) ∧ Below w.heap.size w w' := by
  have HTw := Lib.hid hT
  have hbx := below_box w (.cells (dlC x A c) 25)
  have h0 : PStD w x A c (w.alloc (.cells (dlC x A c) 25)) := ⟨hT.below hbx, hl.below hbx, bxD_start w x A c⟩
  have HAW := Lib.hid (awake_dl _ h0.tb)
  have H0 := Lib.hid h0
  have HLw := Lib.hid hl
  have HFW := Lib.hid (fun W (h : SlT W A x.nd) => few_dl (c := c) h)
  clear h0 hT hbx hl
  by_cases hfz : fewZ x.nd = true
  rotate_left
  · have hff : fewZ x.nd = false := by simpa using hfz
    rw [hff] at HFW
    clear hfz hff hnc
    go_enter Tryd.func3, Tryd.ntmps3
    go_wp2_with (first
      | (go_at_call 7; go_must ((with_reducible refine HAW.out.mono ?_); rintro e w1 ⟨rfl, hb⟩; have H1 := Lib.hid (H0.out.on hb); obtain ⟨c0, c1, c2, c3, c4, c5⟩ := H1.out.bx.2; clear hb))
      | (go_at_call 8; go_must ((with_reducible refine (HFW.out _ H1.out.nm).mono ?_); rintro e w2 ⟨rfl, hb⟩; have H2 := Lib.hid (H1.out.on hb); clear hb)))
    go_ret
    exact ⟨rfl, bxD_bel H2.out.bx⟩
  rw [hfz] at HFW
  have hf := FewD.of hfz
  have h40 := hf.n
  have HFd := Lib.hid hf
  have HRR := Lib.hid (fun W (h : SlT W A x.nd) => rright_dl (c := c) h (by omega) hf.k)
  have HIR := Lib.hid (fun W (h : SlT W A x.nd) (ht : TabsU W) => right_dl h (by omega) hnc hf.k ht)
  have HPU := Lib.hid (fun W (h : SlT W A x.nd) (ht : TabsU W) => put_dl h hf hnc ht)
  unfold PuttedD at HPU
  clear hfz hnc
  by_cases hz : drZ x = 0
  · by_cases hh : x.has = true
    · have hpz : dpZ x = 0 := by unfold dpZ; rw [if_neg (by simpa using hz), if_pos hh]
      rw [hpz, if_pos rfl] at HPU
      rw [hz] at HRR HIR
      have HRP := Lib.hid (fun W (h : SlT W A x.nd) => rput_dl (c := c) h hf)
      have HRD := Lib.hid (fun W p (hs : Sc W p (dlputL x) 0) (ht : TbN p W) => read_dl hs ht hz hh hf)
      have HSm := Lib.hid (fun W A2 c2 (h : SlT W A2 x.nd) (h2 : SlT W A x.nd) => rsame_dl (c := c2) (cc := c) h h2 (by omega))
      have hlen := dlputL_len hf
      have hnot : (!x.has) = false := by rw [hh]; rfl
      obtain ⟨y, hy⟩ : ∃ y, y = dlputL x := ⟨_, rfl⟩
      rw [← hy] at HPU HRP HRD hlen
      unfold Strs at HRP
      have hl7 : y.length ≤ 1000000 := by omega
      clear hpz hz hy hh hlen hf h40
      go_enter Tryd.func3, Tryd.ntmps3
      go_upto_region 14 with (first
        | (go_at_call 7; go_must ((with_reducible refine HAW.out.mono ?_); rintro e w1 ⟨rfl, hb⟩; have H1 := Lib.hid (H0.out.on hb); obtain ⟨c0, c1, c2, c3, c4, c5⟩ := H1.out.bx.2; clear hb))
        | (go_at_call 8; go_must ((with_reducible refine (HFW.out _ H1.out.nm).mono ?_); rintro e w2 ⟨rfl, hb⟩; clear c0 c1 c2 c3 c4 c5; have H2 := Lib.hid (H1.out.on hb); obtain ⟨c0, c1, c2, c3, c4, c5⟩ := H2.out.bx.2; clear hb))
        | (go_at_call 9; go_must ((with_reducible refine (HRR.out _ H2.out.nm).mono ?_); rintro e w3 ⟨rfl, hb⟩; clear c0 c1 c2 c3 c4 c5; have H3 := Lib.hid (H2.out.on hb); obtain ⟨c0, c1, c2, c3, c4, c5⟩ := H3.out.bx.2; clear hb))
        | (go_at_call 10; go_must ((with_reducible refine (HPU.out _ H3.out.nm H3.out.tb).mono ?_); intro e w4 hq; obtain ⟨v, rfl, hr, hb⟩ := hq; obtain ⟨Ab, cb, rfl, hpc⟩ := hr.pc; clear c0 c1 c2 c3 c4 c5; have H4 := Lib.hid (H3.out.on hb); have HP4 := Lib.hid hpc; obtain ⟨c0, c1, c2, c3, c4, c5⟩ := H4.out.bx.2; clear hb hr hpc))
        | (go_at_call 11; go_must ((with_reducible refine (HIR.out _ H4.out.nm H4.out.tb).mono ?_); rintro e w5 ⟨rfl, hb⟩; clear c0 c1 c2 c3 c4 c5; have H5 := Lib.hid (H4.out.on hb); have HP5 := Lib.hid (HP4.out.below hb); obtain ⟨c0, c1, c2, c3, c4, c5⟩ := H5.out.bx.2; clear hb))
        | (go_at_call 12; go_must ((with_reducible refine (over_all HP5.out.lies hl7).mono ?_); intro e w7 hq; obtain ⟨p, rfl, hpp, hs, hb⟩ := hq; have HS7 := Lib.hid hs; have HB7 := Lib.hid hb; clear hs hb)))
      have hx5 := H5.out.bx.1.1.lt
      have h7p := HS7.out.lt
      have hpk : PKD w x A c p w5.heap.size Ab y w7.heap.size (w7.alloc (.cells #[.pointer (some ⟨p, 0, none⟩)] 34)) :=
        ⟨((H5.out.bx.1.1.below HB7.out).alloc _), (HP5.out.lies.below (HB7.out.trans ((below_box w7 _).mono HB7.out.size)) (Nat.le_refl _)), Whole.made _ _ _,
          (bxD_bel H5.out.bx).trans ((HB7.out.trans ((below_box w7 _).mono HB7.out.size)).mono (bxD_bel H5.out.bx).size), by omega, hpp, h7p, Nat.le_trans HB7.out.size (below_box w7 _).size⟩
      have HPK := Lib.hid hpk
      have HS8 := Lib.hid (HS7.out.alloc (.cells #[.pointer (some ⟨p, 0, none⟩)] 34))
      have hb6 : w7.heap.size < (w7.alloc (.cells #[.pointer (some ⟨p, 0, none⟩)] 34)).heap.size := hpk.pt.lt
      clear c0 c1 c2 c3 c4 c5 H1 H2 H3 HAW H0 HRR HIR HPU HP4 H4 HB7 HS7 hpk hl7 HP5 HFW
      generalize w7.alloc (.cells #[.pointer (some ⟨p, 0, none⟩)] 34) = W8 at *
      generalize w7.heap.size = b6 at *
      have HV := Lib.hid (valueD_ok (T := fun q W => q.1 = x ∧ RowT W (W8.heap.size + 5) (.slice q.2.1 x.nd.length q.2.2) x.nd ∧ PKD w x A c p w5.heap.size Ab y b6 W) (cfD1 #[.pointer (some ⟨b6, 0, none⟩)]) (q := p) (w := W8) (by omega)
        (fun q W W' b h1 h2 h3 hg => ⟨h3.1, h3.2.1.past hg (by omega), h3.2.2.grown hg (by omega) (by omega)⟩)
        (fun W hb hsz => by
          have hW := HPK.out.below hb
          have hS := HS8.out.below hb
          refine (closD1 (x := x) (l := y) hW.pt (fun W2 hb2 => ?_) hS.lt).mono ?_
          · exact HRD.out W2 p (hS.below hb2) (TbN.of HTw.out ((hW.below hb2).bel) (Nat.le_of_lt hW.o1) (Nat.le_of_lt (hS.below hb2).lt))
          · rintro e w' ⟨A2, c2, rfl, hn, hs, hg⟩
            exact ⟨(x, (A2, c2)), rfl, ⟨rfl, hn.mono hsz, hW.grown hg (Nat.le_refl _) (by omega)⟩, hg⟩))
      clear HRD HTw HS8
      go_upto_region 15 with (go_at_call 13; go_must ((with_reducible refine HV.out.mono ?_); rintro e w9 ⟨⟨q, A2, c2⟩, rfl, ⟨hqx, hn, hpk⟩, hg⟩; obtain rfl : q = x := hqx; have HPE := Lib.hid (show PED w q A c A2 c2 p w5.heap.size Ab y b6 w9.heap.size ((w9.alloc (.cells (dlC q A2 c2) 25)).alloc (.cells #[.int .i64 0, .int .i64 0] 37)) from ⟨(hpk.below (below_box _ _)).below (below_box _ _), (hn.slt.below (below_box _ _)).below (below_box _ _), (Whole.made _ _ _).alloc _, (made_2 w9 _ _ _)⟩); clear hpk hn hg))
      generalize (w9.alloc (.cells (dlC q A2 c2) 25)).alloc (.cells #[.int .i64 0, .int .i64 0] 37) = W9 at *
      refine wp_region_noPanic ?_
      refine wp_region_held_drew (S := fun W => PEDc w q A c A2 c2 p w5.heap.size Ab cb y b6 w9.heap.size W) (by kernel_rfl) ((HPE.out.below (Below.refl _ _).drew).all cb) (fun hHeld => ?_)
      (refine heldTake (i := 0) (oi := { dst := some 49, op := Op.move (Operand.tmp 5), type := 30, pos := "law.go:53", after := #[], guard := none }) (v := ?_) rfl (by kernel_rfl) (by kernel_rfl) (by kernel_rfl) (by assumption) ?_ ?_; rotate_left; focus (refine .inl ⟨by kernel_rfl, ?_⟩; intro w hSw; (try dsimp only at hSw); go_simp; (try with_reducible rfl)); (try simp only [Act.put, List.setIfInBounds_toArray, List.set_cons_zero, List.set_cons_succ]))
      (refine heldTake (i := 1) (oi := { dst := some 50, op := Op.binOp BinOp.eql 30 (Operand.tmp 49) (Operand.const (Value.int IntKind.i64 0)) 30, type := 4, pos := "law.go:53", after := #[{ on := 0, ground := Ground.data }], guard := none }) (v := ?_) rfl (by kernel_rfl) (by kernel_rfl) (by kernel_rfl) (by assumption) ?_ ?_; rotate_left; focus (refine .inl ⟨by kernel_rfl, ?_⟩; intro w hSw; (try dsimp only at hSw); go_simp; (try with_reducible rfl)); (try simp only [Act.put, List.setIfInBounds_toArray, List.set_cons_zero, List.set_cons_succ]))
      (refine heldTake (i := 2) (oi := { dst := some 51, op := Op.move (Operand.tmp 50), type := 4, pos := "law.go:53", after := #[{ on := 1, ground := Ground.data }], guard := none }) (v := ?_) rfl (by kernel_rfl) (by kernel_rfl) (by kernel_rfl) (by assumption) ?_ ?_; rotate_left; focus (refine .inl ⟨by kernel_rfl, ?_⟩; intro w hSw; (try dsimp only at hSw); go_simp; (try with_reducible rfl)); (try simp only [Act.put, List.setIfInBounds_toArray, List.set_cons_zero, List.set_cons_succ]))
      (refine heldTake (i := 3) (oi := { dst := some 52, op := Op.move (Operand.tmp 4), type := 29, pos := "law.go:53", after := #[{ on := 2, ground := Ground.guard }], guard := some (2, true) }) (v := ?_) rfl (by kernel_rfl) (by kernel_rfl) (by kernel_rfl) (by assumption) ?_ ?_; rotate_left; focus (refine .inl ⟨by kernel_rfl, ?_⟩; intro w hSw; (try dsimp only at hSw); go_simp; (try with_reducible rfl)); (try simp only [Act.put, List.setIfInBounds_toArray, List.set_cons_zero, List.set_cons_succ]))
      (refine heldTake (i := 4) (oi := { dst := some 53, op := Op.convert 29 9 (Operand.tmp 52), type := 9, pos := "law.go:53", after := #[{ on := 3, ground := Ground.data }, { on := 2, ground := Ground.guard }], guard := some (2, true) }) (v := ?_) rfl (by kernel_rfl) (by kernel_rfl) (by kernel_rfl) (by assumption) ?_ ?_; rotate_left; focus (refine .inl ⟨by kernel_rfl, ?_⟩; intro w hSw; (try dsimp only at hSw); go_simp; (try with_reducible rfl)); (try simp only [Act.put, List.setIfInBounds_toArray, List.set_cons_zero, List.set_cons_succ]))
      (refine heldTake (i := 5) (oi := { dst := some 54, op := Op.load 25 (Operand.tmp 1), type := 25, pos := "law.go:53", after := #[{ on := 2, ground := Ground.guard }], guard := some (2, true) }) (v := ?_) rfl (by kernel_rfl) (by kernel_rfl) (by kernel_rfl) (by assumption) ?_ ?_; rotate_left; focus (refine .inl ⟨by kernel_rfl, ?_⟩; intro w hSw; (try dsimp only at hSw); go_simp; (try with_reducible rfl)); (try simp only [Act.put, List.setIfInBounds_toArray, List.set_cons_zero, List.set_cons_succ]))
      refine wpAnyH_ready (rs := [6]) (by kernel_rfl) (by simp) ?_
      refine AllReadyH.cons (o := { dst := some 55, op := Op.call { callee := Callee.value (Operand.func 16), args := #[Operand.tmp 54], argTypes := #[25] }, type := 9, pos := "law.go:53", after := #[{ on := 5, ground := Ground.data }, { on := 2, ground := Ground.chain }, { on := 2, ground := Ground.guard }], guard := some (2, true) }) rfl (fun K hK => ?_) AllReadyH.nil
      go_simp
      (go_at_call 16; (with_reducible refine (HRP.out _ (SlT.below HLw.out (And.left hHeld).a.bel)).mono ?_); rintro e w10 ⟨rfl, hb⟩; have hk10 := (PED.below (And.left hHeld) hb).all cb; clear hb)
      refine hK.out _ _ hk10 (fun hHeld6 => ?_)
      clear hK K hHeld
      (try simp only [Act.put, List.setIfInBounds_toArray, List.set_cons_zero, List.set_cons_succ])
      (refine heldTake (i := 7) (oi := { dst := some 56, op := Op.binOp BinOp.eql 9 (Operand.tmp 53) (Operand.tmp 55) 9, type := 4, pos := "law.go:53", after := #[{ on := 4, ground := Ground.data }, { on := 6, ground := Ground.data }, { on := 2, ground := Ground.guard }], guard := some (2, true) }) (v := ?_) rfl (by kernel_rfl) (by kernel_rfl) (by kernel_rfl) (by assumption) ?_ ?_; rotate_left; focus (refine .inl ⟨by kernel_rfl, ?_⟩; intro w hSw; (try dsimp only at hSw); go_simp; (try with_reducible rfl)); (try simp only [Act.put, List.setIfInBounds_toArray, List.set_cons_zero, List.set_cons_succ]))
      (refine heldTake (i := 8) (oi := { dst := some 57, op := Op.pick (Operand.tmp 51) (Operand.tmp 56) (Operand.const (Value.bool false)), type := 4, pos := "law.go:53", after := #[{ on := 2, ground := Ground.data }, { on := 7, ground := Ground.data }], guard := none }) (v := ?_) rfl (by kernel_rfl) (by kernel_rfl) (by kernel_rfl) (by assumption) ?_ ?_; rotate_left; focus (refine .inl ⟨by kernel_rfl, ?_⟩; intro w hSw; (try dsimp only at hSw); go_simp; (try with_reducible rfl)); (try simp only [Act.put, List.setIfInBounds_toArray, List.set_cons_zero, List.set_cons_succ]))
      (refine heldTake (i := 9) (oi := { dst := some 58, op := Op.move (Operand.tmp 57), type := 4, pos := "law.go:53", after := #[{ on := 8, ground := Ground.data }, { on := 6, ground := Ground.chain }], guard := none }) (v := ?_) rfl (by kernel_rfl) (by kernel_rfl) (by kernel_rfl) (by assumption) ?_ ?_; rotate_left; focus (refine .inl ⟨by kernel_rfl, ?_⟩; intro w hSw; (try dsimp only at hSw); go_simp; (try with_reducible rfl)); (try simp only [Act.put, List.setIfInBounds_toArray, List.set_cons_zero, List.set_cons_succ]))
      (refine heldTake (i := 10) (oi := { dst := some 59, op := Op.fieldAddr 37 (Operand.tmp 8) 0, type := 0, pos := "law.go:53", after := #[{ on := 9, ground := Ground.guard }], guard := some (9, true) }) (v := ?_) rfl (by kernel_rfl) (by kernel_rfl) (by kernel_rfl) (by assumption) ?_ ?_; rotate_left; focus (refine .inl ⟨by kernel_rfl, ?_⟩; intro w hSw; (try dsimp only at hSw); go_simp; (try with_reducible rfl)); (try simp only [Act.put, List.setIfInBounds_toArray, List.set_cons_zero, List.set_cons_succ]))
      (refine heldTake (i := 11) (oi := { dst := some 60, op := Op.load 30 (Operand.tmp 59), type := 30, pos := "law.go:53", after := #[{ on := 10, ground := Ground.data }, { on := 9, ground := Ground.guard }], guard := some (9, true) }) (v := ?_) rfl (by kernel_rfl) (by kernel_rfl) (by kernel_rfl) (by assumption) ?_ ?_; rotate_left; focus (refine .inl ⟨by kernel_rfl, ?_⟩; intro w hSw; (try dsimp only at hSw); go_simp; (try with_reducible rfl)); (try simp only [Act.put, List.setIfInBounds_toArray, List.set_cons_zero, List.set_cons_succ]))
      (refine heldTake (i := 12) (oi := { dst := some 61, op := Op.binOp BinOp.eql 30 (Operand.tmp 60) (Operand.const (Value.int IntKind.i64 0)) 30, type := 4, pos := "law.go:53", after := #[{ on := 11, ground := Ground.data }, { on := 9, ground := Ground.guard }], guard := some (9, true) }) (v := ?_) rfl (by kernel_rfl) (by kernel_rfl) (by kernel_rfl) (by assumption) ?_ ?_; rotate_left; focus (refine .inl ⟨by kernel_rfl, ?_⟩; intro w hSw; (try dsimp only at hSw); go_simp; (try with_reducible rfl)); (try simp only [Act.put, List.setIfInBounds_toArray, List.set_cons_zero, List.set_cons_succ]))
      (refine heldTake (i := 13) (oi := { dst := some 62, op := Op.pick (Operand.tmp 58) (Operand.tmp 61) (Operand.const (Value.bool false)), type := 4, pos := "law.go:53", after := #[{ on := 9, ground := Ground.data }, { on := 12, ground := Ground.data }], guard := none }) (v := ?_) rfl (by kernel_rfl) (by kernel_rfl) (by kernel_rfl) (by assumption) ?_ ?_; rotate_left; focus (refine .inl ⟨by kernel_rfl, ?_⟩; intro w hSw; (try dsimp only at hSw); go_simp; (try with_reducible rfl)); (try simp only [Act.put, List.setIfInBounds_toArray, List.set_cons_zero, List.set_cons_succ]))
      (refine heldTake (i := 14) (oi := { dst := some 63, op := Op.move (Operand.tmp 62), type := 4, pos := "law.go:53", after := #[{ on := 13, ground := Ground.data }, { on := 9, ground := Ground.chain }], guard := none }) (v := ?_) rfl (by kernel_rfl) (by kernel_rfl) (by kernel_rfl) (by assumption) ?_ ?_; rotate_left; focus (refine .inl ⟨by kernel_rfl, ?_⟩; intro w hSw; (try dsimp only at hSw); go_simp; (try with_reducible rfl)); (try simp only [Act.put, List.setIfInBounds_toArray, List.set_cons_zero, List.set_cons_succ]))
      (refine heldTake (i := 15) (oi := { dst := some 64, op := Op.load 25 (Operand.tmp 7), type := 25, pos := "law.go:53", after := #[{ on := 14, ground := Ground.guard }], guard := some (14, true) }) (v := ?_) rfl (by kernel_rfl) (by kernel_rfl) (by kernel_rfl) (by assumption) ?_ ?_; rotate_left; focus (refine .inl ⟨by kernel_rfl, ?_⟩; intro w hSw; (try dsimp only at hSw); go_simp; (try with_reducible rfl)); (try simp only [Act.put, List.setIfInBounds_toArray, List.set_cons_zero, List.set_cons_succ]))
      (refine heldTake (i := 16) (oi := { dst := some 65, op := Op.load 25 (Operand.tmp 1), type := 25, pos := "law.go:53", after := #[{ on := 14, ground := Ground.guard }], guard := some (14, true) }) (v := ?_) rfl (by kernel_rfl) (by kernel_rfl) (by kernel_rfl) (by assumption) ?_ ?_; rotate_left; focus (refine .inl ⟨by kernel_rfl, ?_⟩; intro w hSw; (try dsimp only at hSw); go_simp; (try with_reducible rfl)); (try simp only [Act.put, List.setIfInBounds_toArray, List.set_cons_zero, List.set_cons_succ]))
      refine wpAnyH_ready (rs := [17]) (by kernel_rfl) (by simp) ?_
      refine AllReadyH.cons (o := { dst := some 66, op := Op.call { callee := Callee.value (Operand.func 17), args := #[Operand.tmp 64, Operand.tmp 65], argTypes := #[25, 25] }, type := 4, pos := "law.go:53", after := #[{ on := 15, ground := Ground.data }, { on := 16, ground := Ground.data }, { on := 14, ground := Ground.chain }, { on := 14, ground := Ground.guard }], guard := some (14, true) }) rfl (fun K hK => ?_) AllReadyH.nil
      go_simp
      (go_at_call 17; (with_reducible refine (HSm.out _ _ _ (And.left hHeld6).nm (SlT.below HLw.out (And.left hHeld6).a.bel)).mono ?_); rintro e w11 ⟨rfl, hb⟩; have hk11 := (PED.below (And.left hHeld6) hb).all cb; clear hb)
      refine hK.out _ _ hk11 (fun hHeld17 => ?_)
      clear hK K hHeld6
      (try simp only [Act.put, List.setIfInBounds_toArray, List.set_cons_zero, List.set_cons_succ])
      (refine heldTake (i := 18) (oi := { dst := some 67, op := Op.pick (Operand.tmp 63) (Operand.tmp 66) (Operand.const (Value.bool false)), type := 4, pos := "law.go:53", after := #[{ on := 14, ground := Ground.data }, { on := 17, ground := Ground.data }], guard := none }) (v := ?_) rfl (by kernel_rfl) (by kernel_rfl) (by kernel_rfl) (by assumption) ?_ ?_; rotate_left; focus (refine .inl ⟨by kernel_rfl, ?_⟩; intro w hSw; (try dsimp only at hSw); go_simp; (try with_reducible rfl)); (try simp only [Act.put, List.setIfInBounds_toArray, List.set_cons_zero, List.set_cons_succ]))
      (refine heldTake (i := 19) (oi := { dst := some 2, op := Op.assign (Operand.tmp 67), type := 4, pos := "law.go:53", after := #[{ on := 18, ground := Ground.data }, { on := 17, ground := Ground.chain }, { on := 0, ground := Ground.phase }, { on := 1, ground := Ground.phase }, { on := 2, ground := Ground.phase }, { on := 3, ground := Ground.phase }, { on := 4, ground := Ground.phase }, { on := 5, ground := Ground.phase }, { on := 6, ground := Ground.phase }, { on := 7, ground := Ground.phase }, { on := 8, ground := Ground.phase }, { on := 9, ground := Ground.phase }, { on := 10, ground := Ground.phase }, { on := 11, ground := Ground.phase }, { on := 12, ground := Ground.phase }, { on := 13, ground := Ground.phase }, { on := 14, ground := Ground.phase }, { on := 15, ground := Ground.phase }, { on := 16, ground := Ground.phase }, { on := 17, ground := Ground.phase }, { on := 18, ground := Ground.phase }], guard := none }) (v := ?_) rfl (by kernel_rfl) (by kernel_rfl) (by kernel_rfl) (by assumption) ?_ ?_; rotate_left; focus (refine .inl ⟨by kernel_rfl, ?_⟩; intro w hSw; (try dsimp only at hSw); go_simp; (try with_reducible rfl)); (try simp only [Act.put, List.setIfInBounds_toArray, List.set_cons_zero, List.set_cons_succ]))
      refine wpAnyH_done (by kernel_rfl) ?_ _
      refine NoPanic.normal ?_
      have hLast := hHeld17
      clear hHeld17
      go_wp2
      go_ret
      exact ⟨rfl, (And.left hLast).a.bel⟩
    · have hpz : dpZ x = 15 := by unfold dpZ; rw [if_neg (by simpa using hz), if_neg hh]
      rw [hpz, if_neg (by decide)] at HPU
      rw [hz] at HRR HIR
      have hnot : (!x.has) = true := by simpa using hh
      clear hpz hz hh hf h40
      go_enter Tryd.func3, Tryd.ntmps3
      go_wp2_with (first
        | (go_at_call 7; go_must ((with_reducible refine HAW.out.mono ?_); rintro e w1 ⟨rfl, hb⟩; have H1 := Lib.hid (H0.out.on hb); obtain ⟨c0, c1, c2, c3, c4, c5⟩ := H1.out.bx.2; clear hb))
        | (go_at_call 8; go_must ((with_reducible refine (HFW.out _ H1.out.nm).mono ?_); rintro e w2 ⟨rfl, hb⟩; clear c0 c1 c2 c3 c4 c5; have H2 := Lib.hid (H1.out.on hb); obtain ⟨c0, c1, c2, c3, c4, c5⟩ := H2.out.bx.2; clear hb))
        | (go_at_call 9; go_must ((with_reducible refine (HRR.out _ H2.out.nm).mono ?_); rintro e w3 ⟨rfl, hb⟩; clear c0 c1 c2 c3 c4 c5; have H3 := Lib.hid (H2.out.on hb); obtain ⟨c0, c1, c2, c3, c4, c5⟩ := H3.out.bx.2; clear hb))
        | (go_at_call 10; go_must ((with_reducible refine (HPU.out _ H3.out.nm H3.out.tb).mono ?_); intro e w4 hq; obtain ⟨v, rfl, hr, hb⟩ := hq; obtain ⟨Ab, cb, rfl, hpc⟩ := hr.pc; clear c0 c1 c2 c3 c4 c5; have H4 := Lib.hid (H3.out.on hb); obtain ⟨c0, c1, c2, c3, c4, c5⟩ := H4.out.bx.2; clear hb hr hpc))
        | (go_at_call 11; go_must ((with_reducible refine (HIR.out _ H4.out.nm H4.out.tb).mono ?_); rintro e w5 ⟨rfl, hb⟩; clear c0 c1 c2 c3 c4 c5; have H5 := Lib.hid (H4.out.on hb); obtain ⟨c0, c1, c2, c3, c4, c5⟩ := H5.out.bx.2; clear hb)))
      go_ret
      exact ⟨rfl, bxD_bel H5.out.bx⟩
  · have hpz : dpZ x = drZ x := by unfold dpZ; rw [if_pos hz]
    rw [hpz, if_neg hz] at HPU
    have dz : (drZ x != 0) = true := zb_of (by simpa using hz)
    have ez : (drZ x == 0) = false := by simpa using hz
    generalize drZ x = z at *
    clear hpz hz hf h40
    go_enter Tryd.func3, Tryd.ntmps3
    go_wp2_with (first
      | (go_at_call 7; go_must ((with_reducible refine HAW.out.mono ?_); rintro e w1 ⟨rfl, hb⟩; have H1 := Lib.hid (H0.out.on hb); obtain ⟨c0, c1, c2, c3, c4, c5⟩ := H1.out.bx.2; clear hb))
      | (go_at_call 8; go_must ((with_reducible refine (HFW.out _ H1.out.nm).mono ?_); rintro e w2 ⟨rfl, hb⟩; clear c0 c1 c2 c3 c4 c5; have H2 := Lib.hid (H1.out.on hb); obtain ⟨c0, c1, c2, c3, c4, c5⟩ := H2.out.bx.2; clear hb))
      | (go_at_call 9; go_must ((with_reducible refine (HRR.out _ H2.out.nm).mono ?_); rintro e w3 ⟨rfl, hb⟩; clear c0 c1 c2 c3 c4 c5; have H3 := Lib.hid (H2.out.on hb); obtain ⟨c0, c1, c2, c3, c4, c5⟩ := H3.out.bx.2; clear hb))
      | (go_at_call 10; go_must ((with_reducible refine (HPU.out _ H3.out.nm H3.out.tb).mono ?_); intro e w4 hq; obtain ⟨v, rfl, hr, hb⟩ := hq; obtain ⟨Ab, cb, rfl, hpc⟩ := hr.pc; clear c0 c1 c2 c3 c4 c5; have H4 := Lib.hid (H3.out.on hb); obtain ⟨c0, c1, c2, c3, c4, c5⟩ := H4.out.bx.2; clear hb hr hpc))
      | (go_at_call 11; go_must ((with_reducible refine (HIR.out _ H4.out.nm H4.out.tb).mono ?_); rintro e w5 ⟨rfl, hb⟩; clear c0 c1 c2 c3 c4 c5; have H5 := Lib.hid (H4.out.on hb); obtain ⟨c0, c1, c2, c3, c4, c5⟩ := H5.out.bx.2; clear hb)))
    go_ret
    exact ⟨rfl, bxD_bel H5.out.bx⟩
end Go.Proofs.YtihpnplfklbgjaaDoor

/- Steps that build and append slices of strings. -/
namespace Go.Proofs.YtihpnplfklbgjaaDoor
open Go.RowKit
set_option linter.unusedVariables false
set_option maxRecDepth 100000

theorem tmod_inD {a : Int} {n : Nat} (h0 : 0 ≤ a) (hn : 0 < n) : ∃ j : Nat, j < n ∧ Int.tmod a n = j := by
  refine ⟨(a % n).toNat, ?_, ?_⟩
  · have := Int.emod_lt_of_pos a (show (0 : Int) < n by omega)
    have := Int.emod_nonneg a (show (n : Int) ≠ 0 by omega)
    omega
  · rw [Int.tmod_eq_emod_of_nonneg h0]
    have := Int.emod_nonneg a (show (n : Int) ≠ 0 by omega)
    omega
structure RowTB (B : Nat) (v : Value) (rows : List (List UInt8)) (W : World) : Prop where
  r : RowT W B v rows
theorem RowTB.below {B : Nat} {v : Value} {rows : List (List UInt8)} {W W' : World} (h : RowTB B v rows W) (hb : Below W.heap.size W W') : RowTB B v rows W' := ⟨h.r.later hb⟩
structure SlTB (A : Option Addr) (rows : List (List UInt8)) (W : World) : Prop where
  r : SlT W A rows
theorem SlTB.below {A : Option Addr} {rows : List (List UInt8)} {W W' : World} (h : SlTB A rows W) (hb : Below W.heap.size W W') : SlTB A rows W' := ⟨h.r.below hb⟩
section
variable {w : World} {ops : Array Oper} {o : Oper} {a : Act} {K : Act → World → Prop} {Q : Exit → Act → World → Prop} {E : Prop}
theorem step_build0T (hgd : o.guard = none) (ho : o.op = .buildSlice 23 0 #[])
    (h : ∀ g wa, Below w.heap.size w wa → K (a.put o.dst (.slice (some ⟨g, 0, none⟩) 0 0)) wa) :
    if Region.wanted o (yielded ops a.tmps) = true then Oper.wp Tryd.prog o a w K Q else E := by
  refine step_value (v := .slice (some ⟨w.heap.size, 0, none⟩) 0 0) (w' := w.alloc (.cells #[] 9)) hgd ?_ (h _ _ (below_box w _))
  cases o
  subst ho
  clear h
  simp [go_sem]
theorem step_build1T (hgd : o.guard = none) (x : Operand) (ho : o.op = .buildSlice 23 1 #[(0, x)]) (s : List UInt8) (hx : a.eval x = .string (S s))
    (h : ∀ g wa, Below w.heap.size w wa → SlT wa (some ⟨g, 0, none⟩) [s] → K (a.put o.dst (.slice (some ⟨g, 0, none⟩) 1 1)) wa) :
    if Region.wanted o (yielded ops a.tmps) = true then Oper.wp Tryd.prog o a w K Q else E := by
  refine step_value (v := .slice (some ⟨w.heap.size, 0, none⟩) 1 1) (w' := w.alloc (.cells #[.string (S s)] 9)) hgd ?_ (h _ _ (below_box w _) (fun j t ht => ?_))
  · cases o
    subst ho
    clear h
    generalize a.eval = ev at hx ⊢
    simp [go_sem, hx]
  · have hj : j < 1 := (List.getElem?_eq_some_iff.1 ht).1
    obtain rfl : j = 0 := by omega
    injection ht with ht
    subst ht
    exact ⟨_, 0, rfl, by simp, (Whole.made w 9 #[.string (S s)]).cell 0⟩
/-- append onto nothing without room. -/
theorem step_growT (hgd : o.guard = none) (s x : Operand)
    (ho : o.op = .call { callee := .builtin .append, args := #[s, x], argTypes := #[23, 23] })
    (g : Nat) (hs : a.eval s = .slice (some ⟨g, 0, none⟩) 0 0) (A : Option Addr) (m c : Nat) (news : List (List UInt8)) (hx : a.eval x = .slice A m c) (hl : news.length = m) (hn : SlT w A news)
    (hm : 0 < m) (hb : m ≤ 10000)
    (h : ∀ v' w', RowT w' w.heap.size v' news → Below w.heap.size w w' → K (a.put o.dst v') w') :
    if Region.wanted o (yielded ops a.tmps) = true then Oper.wp Tryd.prog o a w K Q else E := by
  have hw : Region.wanted o (yielded ops a.tmps) = true := by simp [Region.wanted, hgd]
  rw [if_pos hw]
  obtain ⟨i0, hi0, hz0, hz1, hz2⟩ := info_parts infoStr
  obtain ⟨s0, hs0⟩ : ∃ s0, news[0]? = some s0 := ⟨_, List.getElem?_eq_getElem (by omega)⟩
  obtain ⟨b, off, rfl, _, _⟩ := hn 0 s0 hs0
  have hnew : ∀ j v, (news.map fun s => Value.string (S s))[j]? = some v → w.cell? ((⟨b, off, none⟩ : Addr).add j) = some v := fun j v hv => by
    rw [List.getElem?_map] at hv
    cases hj : news[j]? with
    | none => rw [hj] at hv; cases hv
    | some t =>
      rw [hj] at hv
      injection hv with hv
      subst hv
      obtain ⟨b2, o2, e, _, hc⟩ := hn j t hj
      simp only [Option.some.injEq, Addr.mk.injEq] at e
      obtain ⟨rfl, rfl, _⟩ := e
      rw [Go.WideShapes.add_plain]; exact hc
  have hrun := run_append_grow (P := Tryd.prog) w 23 o.type 9 i0 _ Tryd.underlying23 hi0 hz0 ⟨g, 0, none⟩ 0 0 [] (by simp) (by intro j v hv; cases hv) ⟨b, off, none⟩ m c (news.map fun s => Value.string (S s)) (by rw [List.length_map, hz1]; omega) hnew (by omega) (by omega) (growslice_fits_wide (by omega) (by rw [hz2]; omega))
  refine Lib.wp_append_run w s x _ _ ho _ _ hs hx _ _ hrun (h _ _ ?_ ((Below.refl _ _).drew.alloc (Nat.le_refl _) _))
  have hG := grownCap_ge w (0 + m) 0 9
  have hM : grownCap w (0 + m) 0 9 ≤ maxLen := grownCap_le_maxLen w _ _ _ (by unfold maxLen; omega)
  refine ⟨by rw [List.length_map]; omega, .inr ⟨w.heap.size, _, _, ?_, Nat.le_refl _, heap_alloc_new w.drew _, ?_, hM, ?_, ?_⟩⟩
  · rw [hl, Nat.zero_add]
  · rw [hl]; omega
  · have e1 : (Value.string ⟨#[]⟩).cells.size = 1 := rfl
    simp only [Array.size_append, size_zeroCells, List.size_toArray, List.length_map, List.length_nil, e1]
    omega
  · simp [hl]
/-- append of one more. -/
theorem step_oneT (hgd : o.guard = none) (s x : Operand)
    (ho : o.op = .call { callee := .builtin .append, args := #[s, x], argTypes := #[23, 23] })
    (B : Nat) (v : Value) (xs : List (List UInt8)) (hs : a.eval s = v) (hr : RowT w B v xs) (g : Nat) (r : List UInt8) (hx : a.eval x = .slice (some ⟨g, 0, none⟩) 1 1)
    (hg : SlT w (some ⟨g, 0, none⟩) [r]) (hb : xs.length ≤ 10000) (hB : B ≤ w.heap.size)
    (h : ∀ v' w', RowT w' B v' (xs ++ [r]) → Below B w w' → K (a.put o.dst v') w') :
    if Region.wanted o (yielded ops a.tmps) = true then Oper.wp Tryd.prog o a w K Q else E := by
  have hw : Region.wanted o (yielded ops a.tmps) = true := by simp [Region.wanted, hgd]
  rw [if_pos hw]
  obtain ⟨i0, hi0, hz0, hz1, hz2⟩ := info_parts infoStr
  refine wp_append_own _ s x _ ho B 9 i0 _ 1 16 Tryd.underlying23 hi0 hz0 hz1 hz2 rfl (by omega) v _ _ hs hr ⟨g, 0, none⟩ 1 1 [.string (S r)] hx rfl ?_ ?_ (by unfold maxLen; omega) (by omega) hB (fun v' w' h2 h3 _ => h v' w' ?_ (Below.grown (Below.refl _ _) h3 hB (fun k hk => (World.ownsRow.lt hr k hk).1)))
  · intro j u hu
    have hj : j < 1 := (List.getElem?_eq_some_iff.1 hu).1
    obtain rfl : j = 0 := by omega
    injection hu with hu
    subst hu
    obtain ⟨b2, o2, e, _, hc⟩ := hg 0 r rfl
    simp only [Option.some.injEq, Addr.mk.injEq] at e
    obtain ⟨rfl, rfl, _⟩ := e
    rw [Go.WideShapes.add_plain]; exact hc
  · intro u hu
    simp only [List.mem_cons, List.not_mem_nil, or_false] at hu
    rcases hu with rfl
    rfl
  · unfold RowT
    rw [List.length_append, List.map_append]
    simpa using h2
/-- A slice is stored into a field. -/
theorem step_putT (hgd : o.guard = none) (pa pv : Operand) (ho : o.op = .store 23 pa pv) (bb i : Nat) (A : Option Addr) (n c : Nat) (hx : a.eval pa = .pointer (some ⟨bb, i, none⟩)) (hv : a.eval pv = .slice A n c) {y : Value}
    (c0 : w.cell? ⟨bb, i, none⟩ = some y) (f0 : w.frozen? ⟨bb, i, none⟩ = false) (h : K (a.put o.dst undef) (w.setCell ⟨bb, i, none⟩ (.slice A n c))) :
    if Region.wanted o (yielded ops a.tmps) = true then Oper.wp Tryd.prog o a w K Q else E := by
  refine step_skip hgd ?_ h
  cases o
  subst ho
  clear h
  generalize a.eval = ev at hx hv ⊢
  simp [go_sem, hx, hv, c0, f0]
end
/-- What holds while one more name is appended: V is the world ahead, X the block that the list goes to. -/
abbrev HoldX (V : World) (X : Nat) (x : Dl) (B b o : Nat) (A : Option Addr) (c : Nat) (s : List UInt8) (W : World) : Prop :=
  (V.grownBy W (some X) ∧ ∃ v5, Whole W X 25 #[.bool x.has, .int .u32 x.ms.toNat, .int .u32 x.ma.toNat, .int .u32 x.ts.toNat, .int .u32 x.ta.toNat, v5]) ∧ W.cell? ⟨B, 5, none⟩ = some (.slice A x.nd.length c) ∧ W.cell? ⟨b, o, none⟩ = some (.string (S s))
section
variable {V W W' : World} {X B b o c : Nat} {x : Dl} {A : Option Addr} {s : List UInt8}
theorem holdX_on (h : HoldX V X x B b o A c s W) (hb : Below V.heap.size W W') (hX : X < V.heap.size) (hB : B < V.heap.size) (hbb : b < V.heap.size) : HoldX V X x B b o A c s W' := by
  obtain ⟨⟨h1, v5, h2⟩, h3, h4⟩ := h
  exact ⟨⟨⟨hb.os.trans h1.os, hb.tape.trans h1.tape, hb.output.trans h1.output, Nat.le_trans h1.size hb.size, fun i hi hr => (hb.block i hi).trans (h1.block i hi hr)⟩, v5, (hb.block _ hX).trans h2⟩, (hb.cell (p := ⟨B, 5, none⟩) hB).trans h3, (hb.cell (p := ⟨b, o, none⟩) hbb).trans h4⟩
theorem holdX_al (h : HoldX V X x B b o A c s W) (hb : Below W.heap.size W W') (hX : X < V.heap.size) (hB : B < V.heap.size) (hbb : b < V.heap.size) : HoldX V X x B b o A c s W' := holdX_on h (hb.mono h.1.1.size) hX hB hbb
theorem holdX_put (h : HoldX V X x B b o A c s W) (v : Value) (hX : X < V.heap.size) (hB : B < V.heap.size) (hbb : b < V.heap.size) (nB : B ≠ X) (nb : b ≠ X) : HoldX V X x B b o A c s (W.setCell ⟨X, 5, none⟩ v) := by
  obtain ⟨⟨h1, v5, h2⟩, h3, h4⟩ := h
  have g : W.grownBy (W.setCell ⟨X, 5, none⟩ v) (some X) := gb_put (p := ⟨X, 5, none⟩) (gb_refl _ _) (.inl rfl) v
  have hs := h1.size
  exact ⟨⟨gb_trans h1 g, v, h2.put 5 v⟩, (World.cell?_of_block (a := ⟨B, 5, none⟩) (g.block B (by omega) (by simp only [ne_eq, Option.some.injEq]; exact nB))).trans h3, (World.cell?_of_block (a := ⟨b, o, none⟩) (g.block b (by omega) (by simp only [ne_eq, Option.some.injEq]; exact nb))).trans h4⟩
end
end Go.Proofs.YtihpnplfklbgjaaDoor

/- The walk of DylinkTwice. -/
namespace Go.Proofs.YtihpnplfklbgjaaDoor
open Go.RowKit
set_option linter.unusedVariables false
set_option maxRecDepth 100000

/-- One of the names again. -/
theorem nmGo_twice : ∀ {l seen : List (List UInt8)} {s : List UInt8}, nmGo seen l = 0 → s ∈ seen ++ l → checkZ s = 0 → nmGo seen (l ++ [s]) = 27
  | [], seen, s, _, hs, hc => by
    rw [List.append_nil] at hs
    show (if checkZ s ≠ 0 then checkZ s else if s ∈ seen then 27 else nmGo (seen ++ [s]) []) = 27
    rw [if_neg (by simpa using hc), if_pos hs]
  | t :: r, seen, s, h, hs, hc => by
    unfold nmGo at h
    show (if checkZ t ≠ 0 then checkZ t else if t ∈ seen then 27 else nmGo (seen ++ [t]) (r ++ [s])) = 27
    by_cases e : checkZ t = 0
    · rw [if_neg (by simpa using e)] at h ⊢
      by_cases m : t ∈ seen
      · rw [if_pos m] at h; omega
      · rw [if_neg m] at h ⊢
        exact nmGo_twice h (by rw [List.append_assoc]; simpa using hs) hc
    · rw [if_pos e] at h; exact absurd h e
theorem mem_checked {l seen : List (List UInt8)} {s : List UInt8} (h : nmGo seen l = 0) (hs : s ∈ l) : checkZ s = 0 := nmGo_all h s hs
theorem drZ_names {x : Dl} (h : drZ x = 0) (hh : x.has = true) : ¬ (20 < x.ma.toNat ∨ 20 < x.ta.toNat) ∧ nmGo [] x.nd = 0 := by
  unfold drZ at h
  rw [if_pos hh] at h
  split at h
  · omega
  · split at h
    · omega
    · exact ⟨by assumption, h⟩
set_option maxHeartbeats 8000000 in
theorem lawDT {w : World} {x : Dl} {A : Option Addr} {c : Nat} (at_ : UInt8) (n : UInt32) (hT : TabsU w) (hl : SlT w A x.nd) (hnc : x.nd.length ≤ c) :
    Calls Tryd.prog 4 #[dlV x A c, .int .u8 at_.toNat, .int .u32 n.toNat] w fun e w' => e = .returned (.bool true) ∧ Below w.heap.size w w' := by
  have HTw := Lib.hid hT
  have hbx := below_box w (.cells (dlC x A c) 25)
  have h0 : PStD w x A c (w.alloc (.cells (dlC x A c) 25)) := ⟨hT.below hbx, hl.below hbx, bxD_start w x A c⟩
  have HAW := Lib.hid (awake_dl _ h0.tb)
  have H0 := Lib.hid h0
  have HLw := Lib.hid hl
  have HFW := Lib.hid (fun W (h : SlT W A x.nd) => few_dl (c := c) h)
  clear h0 hT hbx hl
  by_cases hfz : fewZ x.nd = true
  rotate_left
  · have hff : fewZ x.nd = false := by simpa using hfz
    rw [hff] at HFW
    clear hfz hff hnc
    go_enter Tryd.func4, Tryd.ntmps4
    go_wp2_with (first
      | (go_at_call 7; go_must ((with_reducible refine HAW.out.mono ?_); rintro e w1 ⟨rfl, hb⟩; have H1 := Lib.hid (H0.out.on hb); obtain ⟨c0, c1, c2, c3, c4, c5⟩ := H1.out.bx.2; clear hb))
      | (go_at_call 8; go_must ((with_reducible refine (HFW.out _ H1.out.nm).mono ?_); rintro e w2 ⟨rfl, hb⟩; have H2 := Lib.hid (H1.out.on hb); clear hb)))
    go_ret
    exact ⟨rfl, bxD_bel H2.out.bx⟩
  rw [hfz] at HFW
  have hf := FewD.of hfz
  have h30 := (fewZ_yes hfz).1
  have HIR := Lib.hid (fun W (h : SlT W A x.nd) (ht : TabsU W) => right_dl h (by omega) hnc hf.k ht)
  clear hfz
  by_cases hz : drZ x = 0
  rotate_left
  · have dz : (drZ x != 0) = true := zb_of (by simpa using hz)
    generalize drZ x = z at *
    clear hz hf h30 hnc
    go_enter Tryd.func4, Tryd.ntmps4
    go_wp2_with (first
      | (go_at_call 7; go_must ((with_reducible refine HAW.out.mono ?_); rintro e w1 ⟨rfl, hb⟩; have H1 := Lib.hid (H0.out.on hb); obtain ⟨c0, c1, c2, c3, c4, c5⟩ := H1.out.bx.2; clear hb))
      | (go_at_call 8; go_must ((with_reducible refine (HFW.out _ H1.out.nm).mono ?_); rintro e w2 ⟨rfl, hb⟩; clear c0 c1 c2 c3 c4 c5; have H2 := Lib.hid (H1.out.on hb); obtain ⟨c0, c1, c2, c3, c4, c5⟩ := H2.out.bx.2; clear hb))
      | (go_at_call 11; go_must ((with_reducible refine (HIR.out _ H2.out.nm H2.out.tb).mono ?_); rintro e w3 ⟨rfl, hb⟩; have H3 := Lib.hid (H2.out.on hb); clear hb)))
    go_ret
    exact ⟨rfl, bxD_bel H3.out.bx⟩
  rw [hz] at HIR
  by_cases hh : x.has = true
  rotate_left
  · have hnot : (!x.has) = true := by simpa using hh
    clear hz hh hf h30 hnc
    go_enter Tryd.func4, Tryd.ntmps4
    go_wp2_with (first
      | (go_at_call 7; go_must ((with_reducible refine HAW.out.mono ?_); rintro e w1 ⟨rfl, hb⟩; have H1 := Lib.hid (H0.out.on hb); obtain ⟨c0, c1, c2, c3, c4, c5⟩ := H1.out.bx.2; clear hb))
      | (go_at_call 8; go_must ((with_reducible refine (HFW.out _ H1.out.nm).mono ?_); rintro e w2 ⟨rfl, hb⟩; clear c0 c1 c2 c3 c4 c5; have H2 := Lib.hid (H1.out.on hb); obtain ⟨c0, c1, c2, c3, c4, c5⟩ := H2.out.bx.2; clear hb))
      | (go_at_call 11; go_must ((with_reducible refine (HIR.out _ H2.out.nm H2.out.tb).mono ?_); rintro e w3 ⟨rfl, hb⟩; clear c0 c1 c2 c3 c4 c5; have H3 := Lib.hid (H2.out.on hb); obtain ⟨c0, c1, c2, c3, c4, c5⟩ := H3.out.bx.2; clear hb)))
    go_ret
    exact ⟨rfl, bxD_bel H3.out.bx⟩
  have hnot : (!x.has) = false := by rw [hh]; rfl
  have HHH := Lib.hid hh
  have HNZ := Lib.hid (drZ_names hz hh)
  clear hz hh
  go_enter Tryd.func4, Tryd.ntmps4
  go_upto_region 5 with (first
    | (go_at_call 7; go_must ((with_reducible refine HAW.out.mono ?_); rintro e w1 ⟨rfl, hb⟩; have H1 := Lib.hid (H0.out.on hb); obtain ⟨c0, c1, c2, c3, c4, c5⟩ := H1.out.bx.2; clear hb))
    | (go_at_call 8; go_must ((with_reducible refine (HFW.out _ H1.out.nm).mono ?_); rintro e w2 ⟨rfl, hb⟩; clear c0 c1 c2 c3 c4 c5; have H2 := Lib.hid (H1.out.on hb); obtain ⟨c0, c1, c2, c3, c4, c5⟩ := H2.out.bx.2; clear hb))
    | (go_at_call 11; go_must ((with_reducible refine (HIR.out _ H2.out.nm H2.out.tb).mono ?_); rintro e w3 ⟨rfl, hb⟩; clear c0 c1 c2 c3 c4 c5; have H3 := Lib.hid (H2.out.on hb); obtain ⟨c0, c1, c2, c3, c4, c5⟩ := H3.out.bx.2; clear hb)))
  have HE := Lib.hid H3.out
  clear H0 H1 H2 H3 HAW HFW HIR
  generalize w3 = W at *
  obtain ⟨B, hB⟩ : ∃ B, B = w.heap.size := ⟨_, rfl⟩
  rw [← hB] at c0 c1 c2 c3 c4 c5
  have hBW : B < W.heap.size := block_lt_of_cell c0
  have key : ∀ (o : Obj) (W : World) (i : Nat) (v : Value), B < W.heap.size → W.cell? ⟨B, i, none⟩ = some v → (W.alloc o).cell? ⟨B, i, none⟩ = some v := fun o W i v h1 h2 => ((below_box W o).cell (p := ⟨B, i, none⟩) h1).trans h2
  have k1 : ∀ (i : Nat) (v : Value), W.cell? ⟨B, i, none⟩ = some v → ∀ o, (W.alloc o).cell? ⟨B, i, none⟩ = some v := fun i v h o => key o W i v hBW h
  have k2 : ∀ (i : Nat) (v : Value), W.cell? ⟨B, i, none⟩ = some v → ∀ o p, ((W.alloc o).alloc p).cell? ⟨B, i, none⟩ = some v := fun i v h o p => key p _ i v (by simp; omega) (k1 i v h o)
  have k3 : ∀ (i : Nat) (v : Value), W.cell? ⟨B, i, none⟩ = some v → ∀ o p q, (((W.alloc o).alloc p).alloc q).cell? ⟨B, i, none⟩ = some v := fun i v h o p q => key q _ i v (by simp; omega) (k2 i v h o p)
  have p0 := k1 _ _ c0
  have p1 := k1 _ _ c1
  have p2 := k1 _ _ c2
  have p3 := k1 _ _ c3
  have p4 := k1 _ _ c4
  have p5 := k1 _ _ c5
  have q0 := k2 _ _ c0
  have q1 := k2 _ _ c1
  have q2 := k2 _ _ c2
  have q3 := k2 _ _ c3
  have q4 := k2 _ _ c4
  have q5 := k2 _ _ c5
  have r0 := k3 _ _ c0
  have r1 := k3 _ _ c1
  have r2 := k3 _ _ c2
  have r3 := k3 _ _ c3
  have r4 := k3 _ _ c4
  have r5 := k3 _ _ c5
  clear k1 k2 k3 key
  rw [← hB]
  have HBE := Lib.hid hB
  clear hB
  obtain ⟨d, hd⟩ : ∃ d : Obj, d = .cells (dlC x A c) 25 := ⟨_, rfl⟩
  go_cut [7, 8, 9] (fun v1 v2 v3 W' => W' = (((W.alloc (.cells (dlC x A c) 25)).alloc (.cells (dlC x A c) 25)).alloc (.cells (dlC x A c) 25)).drew ∧ ∃ b1 b2 b3 : Nat, v1 = .pointer (some ⟨b1, 0, none⟩) ∧ v2 = .pointer (some ⟨b2, 0, none⟩) ∧ v3 = .pointer (some ⟨b3, 0, none⟩) ∧ b1 ≠ b2 ∧ b1 ≠ b3 ∧ b2 ≠ b3 ∧ W.heap.size ≤ b1 ∧ W.heap.size ≤ b2 ∧ W.heap.size ≤ b3 ∧ b1 ≤ W.heap.size + 2 ∧ b2 ≤ W.heap.size + 2 ∧ b3 ≤ W.heap.size + 2)
  case first =>
    go_region
    all_goals (go_wp2; go_meet; exact ⟨rfl, _, _, _, rfl, rfl, rfl, by omega, by omega, by omega, by omega, by omega, by omega, by omega, by omega, by omega⟩)
  case rest =>
    obtain ⟨hW3, b1, b2, b3, rfl, rfl, rfl, n12, n13, n23, l1, l2, l3, u1, u2, u3⟩ := hcut
    have hbe : Below W.heap.size W wc := by
      rw [hW3]
      exact (((below_box W _).alloc (by simp) _).alloc (by simp; omega) _).drew
    have hall : ∀ b, W.heap.size ≤ b → b ≤ W.heap.size + 2 → Whole wc b 25 (dlC x A c) := fun b g1 g2 => by
      rw [hW3]
      have a1 := Whole.made W 25 (dlC x A c)
      have a2 := Whole.made (W.alloc (.cells (dlC x A c) 25)) 25 (dlC x A c)
      have a3 := Whole.made ((W.alloc (.cells (dlC x A c) 25)).alloc (.cells (dlC x A c) 25)) 25 (dlC x A c)
      simp only [World.size_alloc] at a2 a3
      rcases Nat.lt_trichotomy b (W.heap.size + 1) with g | g | g
      · obtain rfl : b = W.heap.size := by omega
        exact (a1.alloc _).alloc _
      · subst g; exact a2.alloc _
      · obtain rfl : b = W.heap.size + 1 + 1 := by omega
        exact a3
    have h1 := hall b1 l1 u1
    have h2 := hall b2 l2 u2
    have h3 := hall b3 l3 u3
    have hE3 := HE.out.on hbe
    have hbw := bxD_bel HE.out.bx
    clear hall hW3 p0 p1 p2 p3 p4 p5 q0 q1 q2 q3 q4 q5 r0 r1 r2 r3 r4 r5 c0 c1 c2 c3 c4 c5 hd
    obtain ⟨g0, g1, g2, g3, g4, g5⟩ := h2.dl
    obtain ⟨k0, k1, k2, k3, k4, k5⟩ := h3.dl
    have fg := h2.frozen 2
    have fk0 := h3.frozen 0
    have fk1 := h3.frozen 1
    have n32 : b3 ≠ b2 := fun e => n23 e.symm
    obtain ⟨m21, e21, d21⟩ : ∃ m : UInt32, max (n.toNat : Int) 21 = (m.toNat : Int) ∧ 20 < m.toNat := by
      by_cases g : n.toNat ≤ 21
      · exact ⟨21, by rw [Int.max_eq_right (by omega)]; rfl, by decide⟩
      · exact ⟨n, by rw [Int.max_eq_left (by omega)], by omega⟩
    obtain ⟨m1, e1, d1⟩ : ∃ m : UInt32, max (n.toNat : Int) 1 = (m.toNat : Int) ∧ m.toNat ≠ 0 := by
      by_cases g : n.toNat ≤ 1
      · exact ⟨1, by rw [Int.max_eq_right (by omega)]; rfl, by decide⟩
      · exact ⟨n, by rw [Int.max_eq_left (by omega)], by omega⟩
    obtain ⟨y, hy⟩ : ∃ y : Dl, y = ⟨x.has, x.ms, m21, x.ts, x.ta, x.nd⟩ := ⟨_, rfl⟩
    obtain ⟨z, hz'⟩ : ∃ z : Dl, z = ⟨false, m1, x.ma, x.ts, x.ta, x.nd⟩ := ⟨_, rfl⟩
    have g1' : wc.grownBy (wc.setCell ⟨b2, 2, none⟩ (.int .u32 m21.toNat)) (some b2) := gb_put (p := ⟨b2, 2, none⟩) (gb_refl _ _) (.inl rfl) _
    have g2' : (wc.setCell ⟨b2, 2, none⟩ (.int .u32 m21.toNat)).grownBy (((wc.setCell ⟨b2, 2, none⟩ (.int .u32 m21.toNat)).setCell ⟨b3, 0, none⟩ (.bool false)).setCell ⟨b3, 1, none⟩ (.int .u32 m1.toNat)) (some b3) := gb_put (p := ⟨b3, 1, none⟩) (gb_put (p := ⟨b3, 0, none⟩) (gb_refl _ _) (.inl rfl) _) (.inl rfl) _
    have hbV := below_new (below_new (hbw.trans (hbe.mono hbw.size)) g1' (Nat.le_trans hbw.size l2)) g2' (Nat.le_trans hbw.size l3)
    have hbVW : Below W.heap.size W (((wc.setCell ⟨b2, 2, none⟩ (.int .u32 m21.toNat)).setCell ⟨b3, 0, none⟩ (.bool false)).setCell ⟨b3, 1, none⟩ (.int .u32 m1.toNat)) := below_new (below_new hbe g1' l2) g2' l3
    have hEV := HE.out.on hbVW
    have wx : Whole (((wc.setCell ⟨b2, 2, none⟩ (.int .u32 m21.toNat)).setCell ⟨b3, 0, none⟩ (.bool false)).setCell ⟨b3, 1, none⟩ (.int .u32 m1.toNat)) b1 25 (dlC x A c) := (h1.grown g1' (by simp only [ne_eq, Option.some.injEq]; exact n12)).grown g2' (by simp only [ne_eq, Option.some.injEq]; exact n13)
    have wy : Whole (((wc.setCell ⟨b2, 2, none⟩ (.int .u32 m21.toNat)).setCell ⟨b3, 0, none⟩ (.bool false)).setCell ⟨b3, 1, none⟩ (.int .u32 m1.toNat)) b2 25 (dlC y A c) := Whole.grown (show Whole (wc.setCell ⟨b2, 2, none⟩ (.int .u32 m21.toNat)) b2 25 (dlC y A c) from by rw [hy]; exact h2.put 2 _) g2' (by simp only [ne_eq, Option.some.injEq]; exact n23)
    have wz : Whole (((wc.setCell ⟨b2, 2, none⟩ (.int .u32 m21.toNat)).setCell ⟨b3, 0, none⟩ (.bool false)).setCell ⟨b3, 1, none⟩ (.int .u32 m1.toNat)) b3 25 (dlC z A c) := by rw [hz']; exact ((h3.grown g1' (by simp only [ne_eq, Option.some.injEq]; exact n32)).put 0 _).put 1 _
    obtain ⟨na, nn⟩ := HNZ.out
    have hyr : drZ y = 25 := by rw [hy]; unfold drZ; rw [if_pos HHH.out, if_pos (.inl d21)]
    have hzr : drZ z = 15 := by rw [hz']; unfold drZ; rw [if_neg (by simp)]; exact if_neg (fun h => d1 h.1)
    have hynd : y.nd = x.nd := by rw [hy]
    have hznd : z.nd = x.nd := by rw [hz']
    have HRY := Lib.hid (fun V (h : SlT V A x.nd) (ht : TabsU V) => show Calls Tryd.prog 11 #[dlV y A c] V (fun e w' => e = .returned (.int .i64 25) ∧ Below V.heap.size V w') from by have := right_dl (x := y) (c := c) (A := A) (by rw [hynd]; exact h) (by rw [hynd]; omega) (by rw [hynd]; exact hnc) (by rw [hynd]; exact hf.k) ht; rwa [hyr] at this)
    have HRZ := Lib.hid (fun V (h : SlT V A x.nd) (ht : TabsU V) => show Calls Tryd.prog 11 #[dlV z A c] V (fun e w' => e = .returned (.int .i64 15) ∧ Below V.heap.size V w') from by have := right_dl (x := z) (c := c) (A := A) (by rw [hznd]; exact h) (by rw [hznd]; omega) (by rw [hznd]; exact hnc) (by rw [hznd]; exact hf.k) ht; rwa [hzr] at this)
    have hBe : B = w.heap.size := HBE.out
    clear hyr hzr hynd hznd hy hz' g1' g2' hbV hbVW h1 h2 h3 hE3 hbe
    go_upto_region 9 with fail
    generalize ((wc.setCell ⟨b2, 2, none⟩ (.int .u32 m21.toNat)).setCell ⟨b3, 0, none⟩ (.bool false)).setCell ⟨b3, 1, none⟩ (.int .u32 m1.toNat) = V at *
    subst hBe
    have HV := Lib.hid (show PStD w x A c V ∧ Whole V b2 25 (dlC y A c) ∧ Whole V b3 25 (dlC z A c) from ⟨hEV, wy, wz⟩)
    clear g0 g1 g2 g3 g4 g5 k0 k1 k2 k3 k4 k5 fg fk0 fk1
    obtain ⟨c0, c1, c2, c3, c4, c5⟩ := hEV.bx.2
    obtain ⟨g0, g1, g2, g3, g4, g5⟩ := wy.dl
    have HXB := Lib.hid wx
    have hVb := bxD_bel hEV.bx
    clear hEV wx wy wz
    by_cases hn0 : x.nd.length = 0
    · have dn : decide (0 < x.nd.length) = false := decide_eq_false (by omega)
      clear hn0 hnc hf h30
      go_wp2_with (first
        | (have tok := HV1; go_at_call 11; go_must ((with_reducible refine (HRZ.out _ HV1.out.1.nm HV1.out.1.tb).mono ?_); rintro e v2 ⟨rfl, hb⟩; have HV2 := Lib.hid (HV1.out.1.on hb); clear hb))
        | (go_at_call 11; go_must ((with_reducible refine (HRY.out _ HV.out.1.nm HV.out.1.tb).mono ?_); rintro e v1 ⟨rfl, hb⟩; have HV1 := Lib.hid (And.intro (HV.out.1.on hb) (HV.out.2.2.below hb)); obtain ⟨k0, k1, k2, k3, k4, k5⟩ := HV1.out.2.dl; clear hb)))
      go_ret
      exact ⟨rfl, bxD_bel HV2.out.bx⟩
    · have dn : decide (0 < x.nd.length) = true := decide_eq_true (by omega)
      obtain ⟨j, hj, htm⟩ := tmod_inD (a := (at_.toNat : Int)) (n := x.nd.length) (by omega) (by omega)
      obtain ⟨s, hs⟩ : ∃ s, x.nd[j]? = some s := ⟨_, List.getElem?_eq_getElem hj⟩
      obtain ⟨b, off, hA, hbl, m0⟩ := HV.out.1.nm j s hs
      obtain ⟨b0, off0, hA0, hbl0, _⟩ := HLw.out j s hs
      have hbb0 : b = b0 := by rw [hA] at hA0; injection hA0 with e; injection e with e
      have hat := at_.toNat_lt
      have wat : IntKind.i64.wrap (at_.toNat : Int) = at_.toNat := by rw [IntKind.wrap_i64]; omega
      have hnz : ¬ x.nd = [] := fun h => by rw [h] at hj; exact absurd hj (Nat.not_lt_zero _)
      have hsz := hf.s s (List.mem_of_getElem? hs)
      obtain ⟨x2, hx2⟩ : ∃ x2 : Dl, x2 = ⟨x.has, x.ms, x.ma, x.ts, x.ta, x.nd ++ [s]⟩ := ⟨_, rfl⟩
      have hx2n : x2.nd = x.nd ++ [s] := by rw [hx2]
      have hx2r : drZ x2 = 27 := by
        rw [hx2]
        unfold drZ
        rw [if_pos HHH.out, if_neg na, if_neg (by rw [List.length_append, List.length_singleton]; omega)]
        exact nmGo_twice nn (by simpa using List.mem_of_getElem? hs) (nmGo_all nn s (List.mem_of_getElem? hs))
      have HRX := Lib.hid (fun V A' c' (h : SlT V A' (x.nd ++ [s])) (hc : (x.nd ++ [s]).length ≤ c') (ht : TabsU V) => show Calls Tryd.prog 11 #[.agg #[.bool x.has, .int .u32 x.ms.toNat, .int .u32 x.ma.toNat, .int .u32 x.ts.toNat, .int .u32 x.ta.toNat, .slice A' (x.nd.length + 1) c']] V (fun e w' => e = .returned (.int .i64 27) ∧ Below V.heap.size V w') from by
        have := right_dl (x := x2) (c := c') (A := A') (by rw [hx2n]; exact h) (by rw [hx2n, List.length_append, List.length_singleton]; omega) (by rw [hx2n]; exact hc) (by rw [hx2n]; intro t ht; rcases List.mem_append.1 ht with h | h; exact hf.k t h; rw [List.mem_singleton] at h; subst h; omega) ht
        rw [hx2r] at this
        have t2 : Calls Tryd.prog 11 #[.agg #[.bool x.has, .int .u32 x.ms.toNat, .int .u32 x.ma.toNat, .int .u32 x.ts.toNat, .int .u32 x.ta.toNat, .slice A' (x.nd ++ [s]).length c']] V (fun e w' => e = .returned (.int .i64 27) ∧ Below V.heap.size V w') := by rw [hx2] at this; exact this
        rwa [List.length_append, List.length_singleton] at t2)
      have hXV : b1 < V.heap.size := HXB.out.lt
      have hBV : w.heap.size < V.heap.size := HV.out.1.bx.1.1.lt
      have hle : w.heap.size < b1 := Nat.lt_of_lt_of_le hBW l1
      have hbV : b < V.heap.size := hbl
      have nbX : b ≠ b1 := by omega
      have HPS := Lib.hid (fun W (g : V.grownBy W (some b1)) => show PStD w x A c W from by
        have hb := below_new hVb g (Nat.le_of_lt hle)
        have hw := (HV.out.1.bx.1.1).grown g (by simp only [ne_eq, Option.some.injEq]; omega)
        exact ⟨HTw.out.below hb, HLw.out.below hb, ⟨hw, hb⟩, hw.dl⟩)
      have h0 : HoldX V b1 x w.heap.size b (off + j) A c s V.drew := ⟨⟨gb_drew (gb_refl _ _), _, HXB.out⟩, c5, m0⟩
      have h30' : x.nd.length ≤ 10000 := by omega
      have hpos : 0 < x.nd.length := by omega
      have H30 := Lib.hid (And.intro hpos h30')
      subst hA
      clear hn0 hs hA0 hbl0 hbb0 hx2r hsz hf h30 hpos h30' hat
      go_upto_region 10 with fail
      go_cut [7] (fun v W => v = .pointer (some ⟨b1, 0, none⟩) ∧ ∃ A' c', Whole W b1 25 (dlC x2 A' c') ∧ SlT W A' (x.nd ++ [s]) ∧ (x.nd ++ [s]).length ≤ c' ∧ V.grownBy W (some b1))
      case first =>
        refine wp_region_noPanic ?_
        refine wp_region_held_drew (S := fun W => HoldX V b1 x w.heap.size b (off + j) (some ⟨b, off, none⟩) c s W) (by kernel_rfl) h0 (fun hHeld => ?_)
        clear h0 c0 c1 c2 c3 c4 c5 g0 g1 g2 g3 g4 g5 m0
        (refine heldTake (i := 1) (oi := { dst := some 40, op := Op.fieldAddr 25 (Operand.tmp 3) 5, type := 0, pos := "law.go:86", after := #[], guard := none }) (v := ?_) rfl (by kernel_rfl) (by kernel_rfl) (by kernel_rfl) (by assumption) ?_ ?_; rotate_left; focus (refine .inl ⟨by kernel_rfl, ?_⟩; intro w hSw; (try dsimp only at hSw); go_simp; (try with_reducible rfl)); skip)
        (try simp only [Act.put, List.setIfInBounds_toArray, List.set_cons_zero, List.set_cons_succ])
        (refine heldTake (i := 2) (oi := { dst := some 41, op := Op.load 23 (Operand.tmp 40), type := 23, pos := "law.go:86", after := #[{ on := 1, ground := Ground.data }], guard := none }) (v := ?_) rfl (by kernel_rfl) (by kernel_rfl) (by kernel_rfl) (by assumption) ?_ ?_; rotate_left; focus (refine .inl ⟨by kernel_rfl, ?_⟩; intro w hSw; (try dsimp only at hSw); go_simp; (try with_reducible rfl)); skip)
        (try simp only [Act.put, List.setIfInBounds_toArray, List.set_cons_zero, List.set_cons_succ])
        (refine heldTake (i := 4) (oi := { dst := some 43, op := Op.fieldAddr 25 (Operand.tmp 3) 5, type := 0, pos := "law.go:86", after := #[], guard := none }) (v := ?_) rfl (by kernel_rfl) (by kernel_rfl) (by kernel_rfl) (by assumption) ?_ ?_; rotate_left; focus (refine .inl ⟨by kernel_rfl, ?_⟩; intro w hSw; (try dsimp only at hSw); go_simp; (try with_reducible rfl)); skip)
        (try simp only [Act.put, List.setIfInBounds_toArray, List.set_cons_zero, List.set_cons_succ])
        (refine heldTake (i := 5) (oi := { dst := some 44, op := Op.load 23 (Operand.tmp 43), type := 23, pos := "law.go:86", after := #[{ on := 4, ground := Ground.data }], guard := none }) (v := ?_) rfl (by kernel_rfl) (by kernel_rfl) (by kernel_rfl) (by assumption) ?_ ?_; rotate_left; focus (refine .inl ⟨by kernel_rfl, ?_⟩; intro w hSw; (try dsimp only at hSw); go_simp; (try with_reducible rfl)); skip)
        (try simp only [Act.put, List.setIfInBounds_toArray, List.set_cons_zero, List.set_cons_succ])
        (refine heldTake (i := 6) (oi := { dst := some 45, op := Op.move (Operand.tmp 1), type := 5, pos := "law.go:86", after := #[], guard := none }) (v := ?_) rfl (by kernel_rfl) (by kernel_rfl) (by kernel_rfl) (by assumption) ?_ ?_; rotate_left; focus (refine .inl ⟨by kernel_rfl, ?_⟩; intro w hSw; (try dsimp only at hSw); go_simp; (try with_reducible rfl)); skip)
        (try simp only [Act.put, List.setIfInBounds_toArray, List.set_cons_zero, List.set_cons_succ])
        (refine heldTake (i := 7) (oi := { dst := some 46, op := Op.convert 5 3 (Operand.tmp 45), type := 3, pos := "law.go:86", after := #[{ on := 6, ground := Ground.data }], guard := none }) (v := ?_) rfl (by kernel_rfl) (by kernel_rfl) (by kernel_rfl) (by assumption) ?_ ?_; rotate_left; focus (refine .inl ⟨by kernel_rfl, ?_⟩; intro w hSw; (try dsimp only at hSw); go_simp; (try with_reducible rfl)); skip)
        (try simp only [Act.put, List.setIfInBounds_toArray, List.set_cons_zero, List.set_cons_succ])
        (refine heldTake (i := 8) (oi := { dst := some 47, op := Op.fieldAddr 25 (Operand.tmp 3) 5, type := 0, pos := "law.go:86", after := #[], guard := none }) (v := ?_) rfl (by kernel_rfl) (by kernel_rfl) (by kernel_rfl) (by assumption) ?_ ?_; rotate_left; focus (refine .inl ⟨by kernel_rfl, ?_⟩; intro w hSw; (try dsimp only at hSw); go_simp; (try with_reducible rfl)); skip)
        (try simp only [Act.put, List.setIfInBounds_toArray, List.set_cons_zero, List.set_cons_succ])
        (refine heldTake (i := 9) (oi := { dst := some 48, op := Op.load 23 (Operand.tmp 47), type := 23, pos := "law.go:86", after := #[{ on := 8, ground := Ground.data }], guard := none }) (v := ?_) rfl (by kernel_rfl) (by kernel_rfl) (by kernel_rfl) (by assumption) ?_ ?_; rotate_left; focus (refine .inl ⟨by kernel_rfl, ?_⟩; intro w hSw; (try dsimp only at hSw); go_simp; (try with_reducible rfl)); skip)
        (try simp only [Act.put, List.setIfInBounds_toArray, List.set_cons_zero, List.set_cons_succ])
        (refine heldTake (i := 10) (oi := { dst := some 49, op := Op.call { callee := Callee.builtin Builtin.len, args := #[Operand.tmp 48], argTypes := #[23] }, type := 3, pos := "law.go:86", after := #[{ on := 9, ground := Ground.data }], guard := none }) (v := ?_) rfl (by kernel_rfl) (by kernel_rfl) (by kernel_rfl) (by assumption) ?_ ?_; rotate_left; focus (refine .inl ⟨by kernel_rfl, ?_⟩; intro w hSw; (try dsimp only at hSw); go_simp; (try with_reducible rfl)); skip)
        (try simp only [Act.put, List.setIfInBounds_toArray, List.set_cons_zero, List.set_cons_succ])
        (refine heldTake (i := 11) (oi := { dst := some 50, op := Op.binOp BinOp.rem 3 (Operand.tmp 46) (Operand.tmp 49) 3, type := 3, pos := "law.go:86", after := #[{ on := 7, ground := Ground.data }, { on := 10, ground := Ground.data }], guard := none }) (v := ?_) rfl (by kernel_rfl) (by kernel_rfl) (by kernel_rfl) (by assumption) ?_ ?_; rotate_left; focus (refine .inl ⟨by kernel_rfl, ?_⟩; intro w hSw; (try dsimp only at hSw); go_simp; (try with_reducible rfl)); skip)
        (try simp only [Act.put, List.setIfInBounds_toArray, List.set_cons_zero, List.set_cons_succ])
        (refine heldTake (i := 12) (oi := { dst := some 51, op := Op.indexAddr 23 (Operand.tmp 44) (Operand.tmp 50), type := 0, pos := "law.go:86", after := #[{ on := 5, ground := Ground.data }, { on := 11, ground := Ground.data }], guard := none }) (v := ?_) rfl (by kernel_rfl) (by kernel_rfl) (by kernel_rfl) (by assumption) ?_ ?_; rotate_left; focus (refine .inl ⟨by kernel_rfl, ?_⟩; intro w hSw; (try dsimp only at hSw); go_simp; (try with_reducible rfl)); skip)
        (try simp only [Act.put, List.setIfInBounds_toArray, List.set_cons_zero, List.set_cons_succ])
        (refine heldTake (i := 13) (oi := { dst := some 52, op := Op.load 9 (Operand.tmp 51), type := 9, pos := "law.go:86", after := #[{ on := 12, ground := Ground.data }], guard := none }) (v := ?_) rfl (by kernel_rfl) (by kernel_rfl) (by kernel_rfl) (by assumption) ?_ ?_; rotate_left; focus (refine .inl ⟨by kernel_rfl, ?_⟩; intro w hSw; (try dsimp only at hSw); go_simp; (try with_reducible rfl)); skip)
        (try simp only [Act.put, List.setIfInBounds_toArray, List.set_cons_zero, List.set_cons_succ])
        refine wpAnyH_ready (rs := [0, 14]) (by kernel_rfl) (by simp) ?_
        refine (AllReadyH.cons (o := { dst := some 39, op := Op.buildSlice 23 0 #[], type := 23, pos := "law.go:86", after := #[], guard := none }) rfl (fun K hK => ?_) (AllReadyH.cons (o := { dst := some 53, op := Op.buildSlice 23 1 #[(0, Operand.tmp 52)], type := 23, pos := "law.go:86", after := #[{ on := 13, ground := Ground.data }], guard := none }) rfl (fun K hK => ?_) AllReadyH.nil))
        · refine step_build0T rfl rfl ?_; intro g0 wa0 hb0; have HB0 := Lib.hid hb0; clear hb0
          refine hK.out _ _ (holdX_al hHeld HB0.out hXV hBV hbV) (fun hHeld0 => ?_)
          clear hK K hHeld
          (try simp only [Act.put, List.setIfInBounds_toArray, List.set_cons_zero, List.set_cons_succ])
          refine wpAnyH_ready (rs := [3, 14]) (by kernel_rfl) (by simp) ?_
          refine (AllReadyH.cons (o := { dst := some 42, op := Op.call { callee := Callee.builtin Builtin.append, args := #[Operand.tmp 39, Operand.tmp 41], argTypes := #[23, 23] }, type := 23, pos := "law.go:86", after := #[{ on := 0, ground := Ground.data }, { on := 2, ground := Ground.data }], guard := none }) rfl (fun K hK => ?_) (AllReadyH.cons (o := { dst := some 53, op := Op.buildSlice 23 1 #[(0, Operand.tmp 52)], type := 23, pos := "law.go:86", after := #[{ on := 13, ground := Ground.data }], guard := none }) rfl (fun K hK => ?_) AllReadyH.nil))
          · refine step_growT rfl _ _ rfl _ rfl _ x.nd.length c x.nd rfl rfl (HPS.out _ hHeld0.1.1).nm H30.out.1 H30.out.2 ?_; intro v3 w3 hr3 hb3; obtain ⟨A3, c3, rfl⟩ := hr3.slice; have HR3 := Lib.hid (RowTB.mk (hr3.mono hHeld0.1.1.size)); have HB3 := Lib.hid hb3; clear hr3 hb3
            refine hK.out _ _ (holdX_al hHeld0 HB3.out hXV hBV hbV) (fun hHeld3 => ?_)
            clear hK K hHeld0
            (try simp only [Act.put, List.setIfInBounds_toArray, List.set_cons_zero, List.set_cons_succ])
            refine wpAnyH_ready (rs := [14]) (by kernel_rfl) (by simp) ?_
            refine (AllReadyH.cons (o := { dst := some 53, op := Op.buildSlice 23 1 #[(0, Operand.tmp 52)], type := 23, pos := "law.go:86", after := #[{ on := 13, ground := Ground.data }], guard := none }) rfl (fun K hK => ?_) AllReadyH.nil)
            refine step_build1T rfl _ rfl s rfl ?_; intro g14 wa14 hb14 hs14; have HB14 := Lib.hid hb14; have HS14 := Lib.hid (SlTB.mk hs14); clear hb14 hs14
            refine hK.out _ _ (holdX_al hHeld3 HB14.out hXV hBV hbV) (fun hHeld14 => ?_)
            clear hK K hHeld3
            (try simp only [Act.put, List.setIfInBounds_toArray, List.set_cons_zero, List.set_cons_succ])
            refine wpAnyH_ready (rs := [15]) (by kernel_rfl) (by simp) ?_
            refine (AllReadyH.cons (o := { dst := some 54, op := Op.call { callee := Callee.builtin Builtin.append, args := #[Operand.tmp 42, Operand.tmp 53], argTypes := #[23, 23] }, type := 23, pos := "law.go:86", after := #[{ on := 3, ground := Ground.data }, { on := 14, ground := Ground.data }, { on := 3, ground := Ground.chain }], guard := none }) rfl (fun K hK => ?_) AllReadyH.nil)
            refine step_oneT rfl _ _ rfl V.heap.size _ x.nd rfl (((HR3.out).below HB14.out)).r _ s rfl (HS14.out).r H30.out.2 hHeld14.1.1.size ?_; intro v15 w15 hr15 hb15; obtain ⟨A15, c15, hv15⟩ := hr15.slice; rw [List.length_append, List.length_singleton] at hv15; subst hv15; have HR15 := Lib.hid hr15; have hk15 := holdX_on hHeld14 hb15 hXV hBV hbV; clear hr15 hb15
            refine hK.out _ _ hk15 (fun hHeld15 => ?_)
            clear hK K hHeld14
            (try simp only [Act.put, List.setIfInBounds_toArray, List.set_cons_zero, List.set_cons_succ])
            (refine heldTake (i := 16) (oi := { dst := some 55, op := Op.fieldAddr 25 (Operand.tmp 7) 5, type := 0, pos := "law.go:86", after := #[{ on := 0, ground := Ground.phase }, { on := 1, ground := Ground.phase }, { on := 2, ground := Ground.phase }, { on := 3, ground := Ground.phase }, { on := 4, ground := Ground.phase }, { on := 5, ground := Ground.phase }, { on := 6, ground := Ground.phase }, { on := 7, ground := Ground.phase }, { on := 8, ground := Ground.phase }, { on := 9, ground := Ground.phase }, { on := 10, ground := Ground.phase }, { on := 11, ground := Ground.phase }, { on := 12, ground := Ground.phase }, { on := 13, ground := Ground.phase }, { on := 14, ground := Ground.phase }, { on := 15, ground := Ground.phase }], guard := none }) (v := ?_) rfl (by kernel_rfl) (by kernel_rfl) (by kernel_rfl) (by assumption) ?_ ?_; rotate_left; focus (refine .inl ⟨by kernel_rfl, ?_⟩; intro w hSw; (try dsimp only at hSw); go_simp; (try with_reducible rfl)); skip)
            (try simp only [Act.put, List.setIfInBounds_toArray, List.set_cons_zero, List.set_cons_succ])
            refine wpAnyH_ready (rs := [17]) (by kernel_rfl) (by simp) ?_
            refine (AllReadyH.cons (o := { dst := none, op := Op.store 23 (Operand.tmp 55) (Operand.tmp 54), type := 0, pos := "law.go:86", after := #[{ on := 16, ground := Ground.data }, { on := 15, ground := Ground.data }, { on := 15, ground := Ground.chain }, { on := 0, ground := Ground.phase }, { on := 1, ground := Ground.phase }, { on := 2, ground := Ground.phase }, { on := 3, ground := Ground.phase }, { on := 4, ground := Ground.phase }, { on := 5, ground := Ground.phase }, { on := 6, ground := Ground.phase }, { on := 7, ground := Ground.phase }, { on := 8, ground := Ground.phase }, { on := 9, ground := Ground.phase }, { on := 10, ground := Ground.phase }, { on := 11, ground := Ground.phase }, { on := 12, ground := Ground.phase }, { on := 13, ground := Ground.phase }, { on := 14, ground := Ground.phase }, { on := 15, ground := Ground.phase }], guard := none }) rfl (fun K hK => ?_) AllReadyH.nil)
            obtain ⟨⟨hg17, v5, hw17⟩, _⟩ := (show HoldX _ _ _ _ _ _ _ _ _ _ from hHeld15); have c17 := hw17.cell 5; have f17 := hw17.frozen 5; simp only [List.getElem?_toArray, List.getElem?_cons_zero, List.getElem?_cons_succ] at c17; refine step_putT rfl _ _ rfl b1 5 A15 _ c15 rfl rfl c17 f17 ?_; have HW17 := Lib.hid (hw17.put 5 (.slice A15 (x.nd.length + 1) c15)); have HN17 := Lib.hid (HR15.out.past (gb_put (p := ⟨b1, 5, none⟩) (gb_refl w15 (some b1)) (.inl rfl) (.slice A15 (x.nd.length + 1) c15)) hXV); have hk17 := holdX_put hHeld15 (.slice A15 (x.nd.length + 1) c15) hXV hBV hbV (by omega) nbX; clear hg17 hw17 c17 f17
            refine hK.out _ _ hk17 (fun hHeld17 => ?_)
            clear hK K hHeld15
            (try simp only [Act.put, List.setIfInBounds_toArray, List.set_cons_zero, List.set_cons_succ])
            refine wpAnyH_done (by kernel_rfl) ?_ _
            refine NoPanic.normal ?_
            have hLast := hHeld17
            clear hHeld17
            go_wp2
            go_meet
            exact ⟨rfl, A15, c15, (by rw [hx2]; unfold dlC; rw [List.length_append, List.length_singleton]; exact HW17.out), HN17.out.slt, HN17.out.room, hLast.1.1⟩
          · refine step_build1T rfl _ rfl s rfl ?_; intro g14 wa14 hb14 hs14; have HB14 := Lib.hid hb14; have HS14 := Lib.hid (SlTB.mk hs14); clear hb14 hs14
            refine hK.out _ _ (holdX_al hHeld0 HB14.out hXV hBV hbV) (fun hHeld14 => ?_)
            clear hK K hHeld0
            (try simp only [Act.put, List.setIfInBounds_toArray, List.set_cons_zero, List.set_cons_succ])
            refine wpAnyH_ready (rs := [3]) (by kernel_rfl) (by simp) ?_
            refine (AllReadyH.cons (o := { dst := some 42, op := Op.call { callee := Callee.builtin Builtin.append, args := #[Operand.tmp 39, Operand.tmp 41], argTypes := #[23, 23] }, type := 23, pos := "law.go:86", after := #[{ on := 0, ground := Ground.data }, { on := 2, ground := Ground.data }], guard := none }) rfl (fun K hK => ?_) AllReadyH.nil)
            refine step_growT rfl _ _ rfl _ rfl _ x.nd.length c x.nd rfl rfl (HPS.out _ hHeld14.1.1).nm H30.out.1 H30.out.2 ?_; intro v3 w3 hr3 hb3; obtain ⟨A3, c3, rfl⟩ := hr3.slice; have HR3 := Lib.hid (RowTB.mk (hr3.mono hHeld14.1.1.size)); have HB3 := Lib.hid hb3; clear hr3 hb3
            refine hK.out _ _ (holdX_al hHeld14 HB3.out hXV hBV hbV) (fun hHeld3 => ?_)
            clear hK K hHeld14
            (try simp only [Act.put, List.setIfInBounds_toArray, List.set_cons_zero, List.set_cons_succ])
            refine wpAnyH_ready (rs := [15]) (by kernel_rfl) (by simp) ?_
            refine (AllReadyH.cons (o := { dst := some 54, op := Op.call { callee := Callee.builtin Builtin.append, args := #[Operand.tmp 42, Operand.tmp 53], argTypes := #[23, 23] }, type := 23, pos := "law.go:86", after := #[{ on := 3, ground := Ground.data }, { on := 14, ground := Ground.data }, { on := 3, ground := Ground.chain }], guard := none }) rfl (fun K hK => ?_) AllReadyH.nil)
            refine step_oneT rfl _ _ rfl V.heap.size _ x.nd rfl (HR3.out).r _ s rfl (((HS14.out).below HB3.out)).r H30.out.2 hHeld3.1.1.size ?_; intro v15 w15 hr15 hb15; obtain ⟨A15, c15, hv15⟩ := hr15.slice; rw [List.length_append, List.length_singleton] at hv15; subst hv15; have HR15 := Lib.hid hr15; have hk15 := holdX_on hHeld3 hb15 hXV hBV hbV; clear hr15 hb15
            refine hK.out _ _ hk15 (fun hHeld15 => ?_)
            clear hK K hHeld3
            (try simp only [Act.put, List.setIfInBounds_toArray, List.set_cons_zero, List.set_cons_succ])
            (refine heldTake (i := 16) (oi := { dst := some 55, op := Op.fieldAddr 25 (Operand.tmp 7) 5, type := 0, pos := "law.go:86", after := #[{ on := 0, ground := Ground.phase }, { on := 1, ground := Ground.phase }, { on := 2, ground := Ground.phase }, { on := 3, ground := Ground.phase }, { on := 4, ground := Ground.phase }, { on := 5, ground := Ground.phase }, { on := 6, ground := Ground.phase }, { on := 7, ground := Ground.phase }, { on := 8, ground := Ground.phase }, { on := 9, ground := Ground.phase }, { on := 10, ground := Ground.phase }, { on := 11, ground := Ground.phase }, { on := 12, ground := Ground.phase }, { on := 13, ground := Ground.phase }, { on := 14, ground := Ground.phase }, { on := 15, ground := Ground.phase }], guard := none }) (v := ?_) rfl (by kernel_rfl) (by kernel_rfl) (by kernel_rfl) (by assumption) ?_ ?_; rotate_left; focus (refine .inl ⟨by kernel_rfl, ?_⟩; intro w hSw; (try dsimp only at hSw); go_simp; (try with_reducible rfl)); skip)
            (try simp only [Act.put, List.setIfInBounds_toArray, List.set_cons_zero, List.set_cons_succ])
            refine wpAnyH_ready (rs := [17]) (by kernel_rfl) (by simp) ?_
            refine (AllReadyH.cons (o := { dst := none, op := Op.store 23 (Operand.tmp 55) (Operand.tmp 54), type := 0, pos := "law.go:86", after := #[{ on := 16, ground := Ground.data }, { on := 15, ground := Ground.data }, { on := 15, ground := Ground.chain }, { on := 0, ground := Ground.phase }, { on := 1, ground := Ground.phase }, { on := 2, ground := Ground.phase }, { on := 3, ground := Ground.phase }, { on := 4, ground := Ground.phase }, { on := 5, ground := Ground.phase }, { on := 6, ground := Ground.phase }, { on := 7, ground := Ground.phase }, { on := 8, ground := Ground.phase }, { on := 9, ground := Ground.phase }, { on := 10, ground := Ground.phase }, { on := 11, ground := Ground.phase }, { on := 12, ground := Ground.phase }, { on := 13, ground := Ground.phase }, { on := 14, ground := Ground.phase }, { on := 15, ground := Ground.phase }], guard := none }) rfl (fun K hK => ?_) AllReadyH.nil)
            obtain ⟨⟨hg17, v5, hw17⟩, _⟩ := (show HoldX _ _ _ _ _ _ _ _ _ _ from hHeld15); have c17 := hw17.cell 5; have f17 := hw17.frozen 5; simp only [List.getElem?_toArray, List.getElem?_cons_zero, List.getElem?_cons_succ] at c17; refine step_putT rfl _ _ rfl b1 5 A15 _ c15 rfl rfl c17 f17 ?_; have HW17 := Lib.hid (hw17.put 5 (.slice A15 (x.nd.length + 1) c15)); have HN17 := Lib.hid (HR15.out.past (gb_put (p := ⟨b1, 5, none⟩) (gb_refl w15 (some b1)) (.inl rfl) (.slice A15 (x.nd.length + 1) c15)) hXV); have hk17 := holdX_put hHeld15 (.slice A15 (x.nd.length + 1) c15) hXV hBV hbV (by omega) nbX; clear hg17 hw17 c17 f17
            refine hK.out _ _ hk17 (fun hHeld17 => ?_)
            clear hK K hHeld15
            (try simp only [Act.put, List.setIfInBounds_toArray, List.set_cons_zero, List.set_cons_succ])
            refine wpAnyH_done (by kernel_rfl) ?_ _
            refine NoPanic.normal ?_
            have hLast := hHeld17
            clear hHeld17
            go_wp2
            go_meet
            exact ⟨rfl, A15, c15, (by rw [hx2]; unfold dlC; rw [List.length_append, List.length_singleton]; exact HW17.out), HN17.out.slt, HN17.out.room, hLast.1.1⟩
        · refine step_build1T rfl _ rfl s rfl ?_; intro g14 wa14 hb14 hs14; have HB14 := Lib.hid hb14; have HS14 := Lib.hid (SlTB.mk hs14); clear hb14 hs14
          refine hK.out _ _ (holdX_al hHeld HB14.out hXV hBV hbV) (fun hHeld14 => ?_)
          clear hK K hHeld
          (try simp only [Act.put, List.setIfInBounds_toArray, List.set_cons_zero, List.set_cons_succ])
          refine wpAnyH_ready (rs := [0]) (by kernel_rfl) (by simp) ?_
          refine (AllReadyH.cons (o := { dst := some 39, op := Op.buildSlice 23 0 #[], type := 23, pos := "law.go:86", after := #[], guard := none }) rfl (fun K hK => ?_) AllReadyH.nil)
          refine step_build0T rfl rfl ?_; intro g0 wa0 hb0; have HB0 := Lib.hid hb0; clear hb0
          refine hK.out _ _ (holdX_al hHeld14 HB0.out hXV hBV hbV) (fun hHeld0 => ?_)
          clear hK K hHeld14
          (try simp only [Act.put, List.setIfInBounds_toArray, List.set_cons_zero, List.set_cons_succ])
          refine wpAnyH_ready (rs := [3]) (by kernel_rfl) (by simp) ?_
          refine (AllReadyH.cons (o := { dst := some 42, op := Op.call { callee := Callee.builtin Builtin.append, args := #[Operand.tmp 39, Operand.tmp 41], argTypes := #[23, 23] }, type := 23, pos := "law.go:86", after := #[{ on := 0, ground := Ground.data }, { on := 2, ground := Ground.data }], guard := none }) rfl (fun K hK => ?_) AllReadyH.nil)
          refine step_growT rfl _ _ rfl _ rfl _ x.nd.length c x.nd rfl rfl (HPS.out _ hHeld0.1.1).nm H30.out.1 H30.out.2 ?_; intro v3 w3 hr3 hb3; obtain ⟨A3, c3, rfl⟩ := hr3.slice; have HR3 := Lib.hid (RowTB.mk (hr3.mono hHeld0.1.1.size)); have HB3 := Lib.hid hb3; clear hr3 hb3
          refine hK.out _ _ (holdX_al hHeld0 HB3.out hXV hBV hbV) (fun hHeld3 => ?_)
          clear hK K hHeld0
          (try simp only [Act.put, List.setIfInBounds_toArray, List.set_cons_zero, List.set_cons_succ])
          refine wpAnyH_ready (rs := [15]) (by kernel_rfl) (by simp) ?_
          refine (AllReadyH.cons (o := { dst := some 54, op := Op.call { callee := Callee.builtin Builtin.append, args := #[Operand.tmp 42, Operand.tmp 53], argTypes := #[23, 23] }, type := 23, pos := "law.go:86", after := #[{ on := 3, ground := Ground.data }, { on := 14, ground := Ground.data }, { on := 3, ground := Ground.chain }], guard := none }) rfl (fun K hK => ?_) AllReadyH.nil)
          refine step_oneT rfl _ _ rfl V.heap.size _ x.nd rfl (HR3.out).r _ s rfl (((((HS14.out).below HB0.out)).below HB3.out)).r H30.out.2 hHeld3.1.1.size ?_; intro v15 w15 hr15 hb15; obtain ⟨A15, c15, hv15⟩ := hr15.slice; rw [List.length_append, List.length_singleton] at hv15; subst hv15; have HR15 := Lib.hid hr15; have hk15 := holdX_on hHeld3 hb15 hXV hBV hbV; clear hr15 hb15
          refine hK.out _ _ hk15 (fun hHeld15 => ?_)
          clear hK K hHeld3
          (try simp only [Act.put, List.setIfInBounds_toArray, List.set_cons_zero, List.set_cons_succ])
          (refine heldTake (i := 16) (oi := { dst := some 55, op := Op.fieldAddr 25 (Operand.tmp 7) 5, type := 0, pos := "law.go:86", after := #[{ on := 0, ground := Ground.phase }, { on := 1, ground := Ground.phase }, { on := 2, ground := Ground.phase }, { on := 3, ground := Ground.phase }, { on := 4, ground := Ground.phase }, { on := 5, ground := Ground.phase }, { on := 6, ground := Ground.phase }, { on := 7, ground := Ground.phase }, { on := 8, ground := Ground.phase }, { on := 9, ground := Ground.phase }, { on := 10, ground := Ground.phase }, { on := 11, ground := Ground.phase }, { on := 12, ground := Ground.phase }, { on := 13, ground := Ground.phase }, { on := 14, ground := Ground.phase }, { on := 15, ground := Ground.phase }], guard := none }) (v := ?_) rfl (by kernel_rfl) (by kernel_rfl) (by kernel_rfl) (by assumption) ?_ ?_; rotate_left; focus (refine .inl ⟨by kernel_rfl, ?_⟩; intro w hSw; (try dsimp only at hSw); go_simp; (try with_reducible rfl)); skip)
          (try simp only [Act.put, List.setIfInBounds_toArray, List.set_cons_zero, List.set_cons_succ])
          refine wpAnyH_ready (rs := [17]) (by kernel_rfl) (by simp) ?_
          refine (AllReadyH.cons (o := { dst := none, op := Op.store 23 (Operand.tmp 55) (Operand.tmp 54), type := 0, pos := "law.go:86", after := #[{ on := 16, ground := Ground.data }, { on := 15, ground := Ground.data }, { on := 15, ground := Ground.chain }, { on := 0, ground := Ground.phase }, { on := 1, ground := Ground.phase }, { on := 2, ground := Ground.phase }, { on := 3, ground := Ground.phase }, { on := 4, ground := Ground.phase }, { on := 5, ground := Ground.phase }, { on := 6, ground := Ground.phase }, { on := 7, ground := Ground.phase }, { on := 8, ground := Ground.phase }, { on := 9, ground := Ground.phase }, { on := 10, ground := Ground.phase }, { on := 11, ground := Ground.phase }, { on := 12, ground := Ground.phase }, { on := 13, ground := Ground.phase }, { on := 14, ground := Ground.phase }, { on := 15, ground := Ground.phase }], guard := none }) rfl (fun K hK => ?_) AllReadyH.nil)
          obtain ⟨⟨hg17, v5, hw17⟩, _⟩ := (show HoldX _ _ _ _ _ _ _ _ _ _ from hHeld15); have c17 := hw17.cell 5; have f17 := hw17.frozen 5; simp only [List.getElem?_toArray, List.getElem?_cons_zero, List.getElem?_cons_succ] at c17; refine step_putT rfl _ _ rfl b1 5 A15 _ c15 rfl rfl c17 f17 ?_; have HW17 := Lib.hid (hw17.put 5 (.slice A15 (x.nd.length + 1) c15)); have HN17 := Lib.hid (HR15.out.past (gb_put (p := ⟨b1, 5, none⟩) (gb_refl w15 (some b1)) (.inl rfl) (.slice A15 (x.nd.length + 1) c15)) hXV); have hk17 := holdX_put hHeld15 (.slice A15 (x.nd.length + 1) c15) hXV hBV hbV (by omega) nbX; clear hg17 hw17 c17 f17
          refine hK.out _ _ hk17 (fun hHeld17 => ?_)
          clear hK K hHeld15
          (try simp only [Act.put, List.setIfInBounds_toArray, List.set_cons_zero, List.set_cons_succ])
          refine wpAnyH_done (by kernel_rfl) ?_ _
          refine NoPanic.normal ?_
          have hLast := hHeld17
          clear hHeld17
          go_wp2
          go_meet
          exact ⟨rfl, A15, c15, (by rw [hx2]; unfold dlC; rw [List.length_append, List.length_singleton]; exact HW17.out), HN17.out.slt, HN17.out.room, hLast.1.1⟩
      case rest =>
        obtain ⟨rfl, A', c', hw', hn', hr', hg'⟩ := hcut
        have hP := HPS.out _ hg'
        have HP := Lib.hid hP
        have hY := HV.out.2.1.grown hg' (by simp only [ne_eq, Option.some.injEq]; omega)
        have hZ := HV.out.2.2.grown hg' (by simp only [ne_eq, Option.some.injEq]; omega)
        have HYZ := Lib.hid (And.intro hY hZ)
        have HNW := Lib.hid hn'
        have HRM := Lib.hid hr'
        clear h0 c0 c1 c2 c3 c4 c5 g0 g1 g2 g3 g4 g5 m0 hP hY hZ hn' hr' hg' dn htm hnz
        obtain ⟨c0, c1, c2, c3, c4, c5⟩ := hw'.dl
        go_wp2_with (first
          | (have tok := HQ2; go_at_call 11; go_must ((with_reducible refine (HRZ.out _ HQ2.out.1.nm HQ2.out.1.tb).mono ?_); rintro e v3 ⟨rfl, hb⟩; have HQ3 := Lib.hid (HQ2.out.1.on hb); clear hb))
          | (have tok := HQ1; go_at_call 11; go_must ((with_reducible refine (HRY.out _ HQ1.out.1.nm HQ1.out.1.tb).mono ?_); rintro e v2 ⟨rfl, hb⟩; have HQ2 := Lib.hid (And.intro (HQ1.out.1.on hb) (HQ1.out.2.2.below hb)); obtain ⟨k0, k1, k2, k3, k4, k5⟩ := HQ2.out.2.dl; clear hb))
          | (go_at_call 11; go_must ((with_reducible refine (HRX.out _ _ _ HNW.out HRM.out HP.out.tb).mono ?_); rintro e v1 ⟨rfl, hb⟩; have HQ1 := Lib.hid (And.intro (HP.out.on hb) (And.intro (HYZ.out.1.below hb) (HYZ.out.2.below hb))); obtain ⟨g0, g1, g2, g3, g4, g5⟩ := HQ1.out.2.1.dl; clear hb)))
        go_ret
        exact ⟨rfl, bxD_bel HQ3.out.bx⟩
end Go.Proofs.YtihpnplfklbgjaaDoor
