/- Imports that lie somewhere; rows of imports of the call's own. -/
import Derived.Test.YtdogjinjbnlgdaaDoorQz01
import Derived.OwnWalk
import Derived.Test.YtdogjinjbnlgdaaDoorQz11
import Derived.Test.YtdogjinjbnlgdaaDoorQz09
namespace Go.Proofs.YtdogjinjbnlgdaaDoor
open Go.RowKit
set_option linter.unusedVariables false
set_option maxRecDepth 100000

def imL (x : Im) : List Value := (imC x).toList
theorem infoIm : (Tryd.prog.info? 28).map (fun i => (i.zero, i.size, i.bytes)) = some (some (imV imZ), 9, 56) := by kernel_rfl
/-- A row of imports of the call's own. -/
def RowM (W : World) (base : Nat) (v : Value) (rows : List Im) : Prop := W.ownsRow base 28 9 v rows.length (rows.flatMap imL)
theorem RowM.nil (W : World) (base : Nat) : RowM W base (.slice none 0 0) [] := World.ownsRow_nil W base _ 9
theorem RowM.slice {W : World} {base : Nat} {v : Value} {rows : List Im} (h : RowM W base v rows) : ∃ A c, v = .slice A rows.length c := by
  rcases h.2 with ⟨rfl, h0⟩ | ⟨g, cap, cur, rfl, _⟩
  · exact ⟨none, 0, by rw [h0]⟩
  · exact ⟨_, cap, rfl⟩
theorem RowM.past {W W' : World} {base b : Nat} {v : Value} {rows : List Im} (h : RowM W base v rows) (hg : W.grownBy W' (some b)) (hb : b < base) : RowM W' base v rows :=
  World.ownsRow.kept h hg (by
    cases hv : v.ownBlock with
    | none => exact .inl rfl
    | some k => exact .inr (by have := (World.ownsRow.lt h k hv).1; simp only [ne_eq, Option.some.injEq]; omega))
theorem RowM.later {W W' : World} {base : Nat} {v : Value} {rows : List Im} (h : RowM W base v rows) (hb : Below W.heap.size W W') : RowM W' base v rows :=
  World.ownsRow.kept h (gb_of_below none hb) (by cases v.ownBlock with
    | none => exact .inl rfl
    | some k => exact .inr (by simp))
theorem RowM.alloc {W : World} {base : Nat} {v : Value} {rows : List Im} (h : RowM W base v rows) (o : Obj) : RowM (W.alloc o) base v rows := World.ownsRow.alloc h o
theorem RowM.mono {W : World} {base base' : Nat} {v : Value} {rows : List Im} (h : RowM W base v rows) (hb : base' ≤ base) : RowM W base' v rows := by
  obtain ⟨h1, h2⟩ := h
  refine ⟨h1, ?_⟩
  rcases h2 with h2 | ⟨g, cap, cur, e, hg, r⟩
  · exact .inl h2
  · exact .inr ⟨g, cap, cur, e, Nat.le_trans hb hg, r⟩
/-- append of a new block of one import. -/
theorem rowM_new {w : World} {ops : Array Oper} {rest : List Oper} {o : Oper} {a : Act} {Q : Exit → Act → World → Prop} (hgd : o.guard = none) (s x : Operand)
    (ho : o.op = .call { callee := .builtin .append, args := #[s, x], argTypes := #[48, 48] })
    (B : Nat) (v : Value) (l : List Im) (hs : a.eval s = v) (hr : RowM w B v l) (g : Nat) (r : Im) (hx : a.eval x = .slice (some ⟨g, 0, none⟩) 1 1)
    (hg : Whole w g 28 (imC r)) (hb : l.length ≤ 10000) (hB : B ≤ w.heap.size)
    (h : ∀ v' w', RowM w' B v' (l ++ [r]) → w.grownBy w' v.ownBlock → wpList Tryd.prog ops Q rest (a.put o.dst v') w') : wpList Tryd.prog ops Q (o :: rest) a w := by
  obtain ⟨i0, hi0, hz0, hz1, hz2⟩ := info_parts infoIm
  refine wpList_append_own _ hgd s x _ ho B 28 i0 _ 9 56 Tryd.underlying48 hi0 hz0 hz1 hz2 rfl (by omega) v _ _ hs hr ⟨g, 0, none⟩ 1 1 (imL r) hx rfl ?_ ?_ (by unfold maxLen; omega) (by omega) hB (fun v' w' h2 h3 _ => h v' w' ?_ h3)
  · intro j u hu
    rw [Go.WideShapes.add_plain, Nat.zero_add, hg.cell, ← Array.getElem?_toList]
    exact hu
  · intro u hu
    unfold imL at hu
    simp only [List.mem_cons, List.not_mem_nil, or_false] at hu
    rcases hu with rfl | rfl | rfl | rfl | rfl | rfl | rfl | rfl | rfl <;> rfl
  · unfold RowM
    rw [List.length_append, List.flatMap_append]
    simpa using h2
/-- Nothing old has turned, and nothing of the row's own is lost. -/
theorem RowM.below {w W W' : World} {base : Nat} {v : Value} {rows : List Im} (h : RowM W base v rows) (hB : base ≤ W.heap.size) (hg : W.grownBy W' v.ownBlock) : Below base W W' :=
  Below.grown (Below.refl _ _) hg hB (fun k hk => (World.ownsRow.lt h k hk).1)

/-- The slice at A reads as these imports. -/
def Ims (w : World) (A : Option Addr) (l : List Im) : Prop :=
  ∀ j x, l[j]? = some x → ∃ b off, A = some ⟨b, off, none⟩ ∧ b < w.heap.size ∧ ∀ u, u < 9 → w.cell? ⟨b, off + j * 9 + u, none⟩ = (imL x)[u]?
theorem Ims.below {w w' : World} {A : Option Addr} {l : List Im} (h : Ims w A l) (hb : Below w.heap.size w w') : Ims w' A l := fun j x hx => by
  obtain ⟨b, off, e, h1, h2⟩ := h j x hx
  exact ⟨b, off, e, Nat.lt_of_lt_of_le h1 hb.size, fun u hu => (hb.cell (p := ⟨b, _, none⟩) h1).trans (h2 u hu)⟩
/-- The nine cells of one of them, as a walk writes them. -/
theorem Ims.nine {w : World} {A : Option Addr} {l : List Im} (h : Ims w A l) {k : Nat} {x : Im} (hx : l[k]? = some x) : ∃ b off, A = some ⟨b, off, none⟩ ∧ b < w.heap.size ∧
    w.cell? ⟨b, off + k * 9, none⟩ = some (.string (S x.mod)) ∧ w.cell? ⟨b, off + k * 9 + 1, none⟩ = some (.string (S x.nam)) ∧ w.cell? ⟨b, off + k * 9 + 2, none⟩ = some (.int .u8 x.kind.toNat) ∧ w.cell? ⟨b, off + k * 9 + 3, none⟩ = some (.int .u32 x.typ.toNat) ∧
    w.cell? ⟨b, off + k * 9 + 4, none⟩ = some (.int .u32 x.mn.toNat) ∧ w.cell? ⟨b, off + k * 9 + 5, none⟩ = some (.int .u32 x.mx.toNat) ∧ w.cell? ⟨b, off + k * 9 + 6, none⟩ = some (.bool x.bd) ∧ w.cell? ⟨b, off + k * 9 + 7, none⟩ = some (.int .u8 x.gt.toNat) ∧ w.cell? ⟨b, off + k * 9 + 8, none⟩ = some (.bool x.gm) := by
  obtain ⟨b, off, e, h1, h2⟩ := h k x hx
  exact ⟨b, off, e, h1, h2 0 (by omega), h2 1 (by omega), h2 2 (by omega), h2 3 (by omega), h2 4 (by omega), h2 5 (by omega), h2 6 (by omega), h2 7 (by omega), h2 8 (by omega)⟩
theorem flatM_get : ∀ (l : List Im) (j : Nat) (x : Im) (u : Nat), l[j]? = some x → u < 9 → (l.flatMap imL)[j * 9 + u]? = (imL x)[u]?
  | [], j, x, u, h, _ => by cases h
  | y :: l, 0, x, u, h, hu => by
    injection h with h
    subst h
    rw [List.flatMap_cons, Nat.zero_mul, Nat.zero_add, List.getElem?_append_left (by show u < 9; exact hu)]
  | y :: l, j + 1, x, u, h, hu => by
    rw [List.flatMap_cons, List.getElem?_append_right (by show 9 ≤ _; omega)]
    have e : (j + 1) * 9 + u - (imL y).length = j * 9 + u := by show (j + 1) * 9 + u - 9 = _; omega
    rw [e]
    exact flatM_get l j x u h hu
/-- What a row of imports reads as. -/
theorem RowM.ims {W : World} {base : Nat} {A : Option Addr} {n c : Nat} {rows : List Im} (h : RowM W base (.slice A n c) rows) : Ims W A rows := fun j x hx => by
  have hj := (List.getElem?_eq_some_iff.1 hx).1
  rcases h.2 with ⟨_, h0⟩ | ⟨g, cap, cur, e, _, hg, _, _, _, ht⟩
  · omega
  · injection e with e1 e2 e3
    exact ⟨g, 0, e1, (Array.getElem?_eq_some_iff.1 hg).1, fun u hu => by
      rw [cell_of_row W g (0 + j * 9 + u) cur _ _ hg, ← flatM_get rows j x u hx hu, ← ht, List.getElem?_take, if_pos (by omega)]
      simp⟩
end Go.Proofs.YtdogjinjbnlgdaaDoor

/- scan.Table, imports.nextKind, Get: what is written is read. -/
namespace Go.Proofs.YtdogjinjbnlgdaaDoor
open Go.RowKit Go.Lib
set_option linter.unusedVariables false
set_option maxRecDepth 100000

theorem table_ok {w : World} {p : Nat} {l : List UInt8} {k k1 k2 : Nat} {a b : Int} {c : Bool} (h : Sc w p l k) (h1 : tagR l k 112 = .ok () k1) (h2 : limR l k1 = .ok (a, b, c) k2) :
    Calls Tryd.prog 39 #[.pointer (some ⟨p, 0, none⟩)] w fun e w' => e = .returned (.agg #[.int .u32 a, .int .u32 b, .bool c]) ∧ Sc w' p l k2 ∧ w.grownBy w' (some p) := by
  have hlt := h.lt
  have hT := tag_scan (h.alloc (.cells #[.int .u32 0, .int .u32 0, .bool false] 24)) 112
  rw [h1] at hT
  have HT := Lib.hid hT
  have HWM := Lib.hid (Whole.made w 24 #[.int .u32 0, .int .u32 0, .bool false])
  have V1 := Lib.hid (fun W (hs : Sc W p l k1) => limits_scan hs)
  rw [h2] at V1
  clear hT h1 h2 h
  go_enter Tryd.func39, Tryd.ntmps39
  go_wp2_with (first
    | (go_at_call 66; go_must ((with_reducible refine HT.out.mono ?_); rintro e w1 ⟨rfl, hs, hg⟩; have HS := Lib.hid hs; have HG := Lib.hid hg; have HW1 := Lib.hid (HWM.out.grown hg (by simp only [ne_eq, Option.some.injEq]; omega)); clear hs hg))
    | (go_at_call 40; go_must ((with_reducible refine (V1.out _ HS.out).mono ?_); rintro e w2 ⟨rfl, hs, hg⟩; have HS2 := Lib.hid hs; have HG2 := Lib.hid hg; have HW2 := Lib.hid (HW1.out.grown hg (by simp only [ne_eq, Option.some.injEq]; omega)); have g0 := HW2.out.frozen 0; have g1 := HW2.out.frozen 1; have g2 := HW2.out.frozen 2; have k0 := HW2.out.cell 0; have k1' := HW2.out.cell 1; have k2' := HW2.out.cell 2; simp only [List.getElem?_toArray, List.getElem?_cons_zero, List.getElem?_cons_succ] at k0 k1' k2'; clear hs hg)))
  obtain ⟨hW, hG⟩ := three_put (u := .int .u32 a) (v := .int .u32 b) (s := .bool c) HW2.out
  have q0 := hW.cell 0
  have q1 := hW.cell 1
  have q2 := hW.cell 2
  simp only [List.getElem?_toArray, List.getElem?_cons_zero, List.getElem?_cons_succ] at q0 q1 q2
  have hall := gb_trans (gb_trans (gb_alloc (gb_refl w _) _) HG.out) HG2.out
  refine bodyPost_ret (v := .agg #[.int .u32 a, .int .u32 b, .bool c]) (by simp [results, Tryd.results39, go_sem, q0, q1, q2]) rfl ⟨rfl, ?_, ?_⟩
  · exact HS2.out.grown hG (by simp only [ne_eq, Option.some.injEq]; omega) (fun g e => by injection e with e; omega)
  · exact gb_put (p := ⟨w.heap.size, 2, none⟩) (gb_put (p := ⟨w.heap.size, 1, none⟩) (gb_put (p := ⟨w.heap.size, 0, none⟩) hall (.inr (Nat.le_refl _)) _) (.inr (Nat.le_refl _)) _) (.inr (Nat.le_refl _)) _
theorem nk_ok {w : World} {p : Nat} {l : List UInt8} {k k1 : Nat} {c : UInt8} (h : Sc w p l k) (h1 : byteR l k = .ok c k1) (hc : c.toNat ≤ 3) :
    Calls Tryd.prog 37 #[.pointer (some ⟨p, 0, none⟩)] w fun e w' => e = .returned (.int .u8 c.toNat) ∧ Sc w' p l k1 ∧ w.grownBy w' (some p) := by
  have HA := Lib.hid (at_any h)
  have hB := byte_any h
  rw [h1] at hB
  have HB := Lib.hid hB
  have d1 : decide ((c.toNat : Int) ≤ 3) = true := decide_eq_true (by omega)
  clear hB h1 h hc
  go_enter Tryd.func37, Tryd.ntmps37
  go_wp2_with (first
    | (go_at_call 63; go_must ((with_reducible refine HA.out.mono ?_); rintro e w1 ⟨rfl, rfl⟩))
    | (go_at_call 64; go_must ((with_reducible refine HB.out.mono ?_); rintro e w1 ⟨rfl, hs, hg⟩; have HS := Lib.hid hs; have HG := Lib.hid hg; clear hs hg))
    | (go_at_call 61; go_must ((with_reducible refine (unlessT _ _ _).mono ?_); rintro e w' ⟨rfl, rfl⟩)))
  go_ret
  exact ⟨rfl, HS.out, HG.out⟩

/-- What is held while an import is read: x so far. -/
structure GIn (w : World) (p : Nat) (l : List UInt8) (k : Nat) (x : Im) (W : World) : Prop where
  hp : p < w.heap.size
  sc : Sc W p l k
  tb : TbN p W
  g : w.grownBy W (some p)
  b0 : Whole W w.heap.size 28 (imC imZ)
  b1 : Whole W (w.heap.size + 1) 28 (imC x)
section
variable {w W W' : World} {p : Nat} {l : List UInt8} {k k' : Nat} {x y : Im}
theorem GIn.step (h : GIn w p l k x W) (hs : Sc W' p l k') (hg : W.grownBy W' (some p)) : GIn w p l k' x W' := by
  have hp := h.hp
  exact ⟨hp, hs, h.tb.keep hg (Nat.le_refl _), gb_trans h.g hg, h.b0.grown hg (by simp only [ne_eq, Option.some.injEq]; omega), h.b1.grown hg (by simp only [ne_eq, Option.some.injEq]; omega)⟩
theorem GIn.wrote (h : GIn w p l k x W) (hg : W.grownBy W' (some (w.heap.size + 1))) (hb : Whole W' (w.heap.size + 1) 28 (imC y)) : GIn w p l k y W' := by
  have hp := h.hp
  exact ⟨hp, h.sc.grown hg (by simp only [ne_eq, Option.some.injEq]; omega) (fun g e => by injection e with e; omega), by
    obtain ⟨⟨h1, h2⟩, h3, h4, h5⟩ := h.tb
    have key : ∀ b o, b < p → W'.cell? ⟨b, o, none⟩ = W.cell? ⟨b, o, none⟩ := fun b o hb => by
      unfold World.cell?
      rw [hg.block b (by omega) (by simp only [ne_eq, Option.some.injEq]; omega)]
    exact ⟨⟨fun c hc => (key _ _ h3).trans (h1 c hc), fun i hi => ⟨(key _ _ h4).trans (h2 i hi).1, (key _ _ h4).trans (h2 i hi).2⟩⟩, h3, h4, Nat.le_trans h5 hg.size⟩,
    gb_before h.g hg (fun g e => .inr (by injection e with e; omega)), h.b0.grown hg (by simp only [ne_eq, Option.some.injEq]; omega), hb⟩
abbrev zC : Array Value := #[.string { data := #[] }, .string { data := #[] }, .int .u8 0, .int .u32 0, .int .u32 0, .int .u32 0, .bool false, .int .u8 0, .bool false]
theorem imC_zero : imC imZ = zC := rfl
theorem GIn.start (h : Sc w p l k) (hT : TbN p w) : GIn w p l k imZ ((w.alloc (.cells zC 28)).alloc (.cells zC 28)) := by
  rw [← imC_zero]
  have h2 := Whole.made (w.alloc (.cells (imC imZ) 28)) 28 (imC imZ)
  rw [size_box] at h2
  exact ⟨h.lt, (h.alloc _).alloc _, (hT.below (below_box _ _)).below (below_box _ _), gb_alloc (gb_alloc (gb_refl _ _) _) _, (Whole.made w _ _).alloc _, h2⟩
theorem gb_put1 (w : World) (b i : Nat) (u : Value) : w.grownBy (w.setCell ⟨b, i, none⟩ u) (some b) := gb_put (p := ⟨b, i, none⟩) (gb_refl w _) (.inl rfl) u
end
/-- Get of an import of this kind. -/
def Gots (p : Nat) (l : List UInt8) (k' : Nat) (x : Im) (w : World) (e : Ending) (w' : World) : Prop := e = .returned (imV x) ∧ Sc w' p l k' ∧ w.grownBy w' (some p)
/-- The end of Get: the result is copied. -/
theorem got_end {w W : World} {p : Nat} {l : List UInt8} {k : Nat} {x : Im} (h : GIn w p l k x W) {W' : World} (hW : W' = (((((((((W.setCell ⟨w.heap.size, 0, none⟩ (.string (S x.mod))).setCell ⟨w.heap.size, 1, none⟩ (.string (S x.nam))).setCell ⟨w.heap.size, 2, none⟩ (.int .u8 x.kind.toNat)).setCell ⟨w.heap.size, 3, none⟩ (.int .u32 x.typ.toNat)).setCell ⟨w.heap.size, 4, none⟩ (.int .u32 x.mn.toNat)).setCell ⟨w.heap.size, 5, none⟩ (.int .u32 x.mx.toNat)).setCell ⟨w.heap.size, 6, none⟩ (.bool x.bd)).setCell ⟨w.heap.size, 7, none⟩ (.int .u8 x.gt.toNat)).setCell ⟨w.heap.size, 8, none⟩ (.bool x.gm))) :
    Whole W' w.heap.size 28 (imC x) ∧ Sc W' p l k ∧ w.grownBy W' (some p) := by
  subst hW
  obtain ⟨h1, h2⟩ := put9 (u0 := .string (S x.mod)) (u1 := .string (S x.nam)) (u2 := .int .u8 x.kind.toNat) (u3 := .int .u32 x.typ.toNat) (u4 := .int .u32 x.mn.toNat) (u5 := .int .u32 x.mx.toNat) (u6 := .bool x.bd) (u7 := .int .u8 x.gt.toNat) (u8 := .bool x.gm) h.b0
  have hp := h.hp
  exact ⟨h1, h.sc.grown h2 (by simp only [ne_eq, Option.some.injEq]; omega) (fun g e => by injection e with e; omega), gb_before h.g h2 (fun g e => .inr (by injection e with e; omega))⟩
set_option maxHeartbeats 4000000 in
theorem get_0 {w : World} {p : Nat} {l : List UInt8} {k k1 k2 k3 k4 : Nat} {x : Im} (h : Sc w p l k) (hT : TbN p w) (h1 : nameR l k = .ok x.mod k1) (h2 : nameR l k1 = .ok x.nam k2) (h3 : byteR l k2 = .ok x.kind k3)
    (hk : x.kind.toNat = 0) (hv : indexR l k3 = .ok (x.typ.toNat : Int) k4) (hx : x = ⟨x.mod, x.nam, x.kind, x.typ, 0, 0, false, 0, false⟩) : Calls Tryd.prog 13 #[.pointer (some ⟨p, 0, none⟩)] w (Gots p l k4 x w) := by
  have H0 := Lib.hid (GIn.start h hT)
  have hN := name_scan H0.out.sc H0.out.tb
  rw [h1] at hN
  have HN1 := Lib.hid hN
  have HN2 := Lib.hid (fun W (hs : Sc W p l k1) (hb : TbN p W) => by have := name_scan hs hb; rw [h2] at this; exact this)
  have HK := Lib.hid (fun W (hs : Sc W p l k2) => nk_ok hs h3 (by omega))
  have HV := Lib.hid (fun W (hs : Sc W p l k3) => by have := index_scan hs; rw [hv] at this; exact this)
  have d0 : ((x.kind.toNat : Int) == 0) = true := be_of (by simp; omega)
  have HX := Lib.hid hx
  obtain ⟨c0, c1, c2, c3, c4, c5, c6, c7, c8⟩ := H0.out.b1.im
  clear h hT hN h1 h2 h3 hk hv hx c0 c1 c2 c3 c4 c5 c6 c7 c8
  go_enter Tryd.func13, Tryd.ntmps13
  go_upto_region 5 with (first
    | (have tok := H3; go_at_call 37; go_must ((with_reducible refine (HK.out _ H3.out.sc).mono ?_); rintro e w5 ⟨rfl, hs, hg⟩; clear c0 f0 c1 f1 c2 f2 c3 f3 c4 f4 c5 f5 c6 f6 c7 f7 c8 f8; have H4 := Lib.hid (H3.out.step hs hg); clear hs hg; obtain ⟨c0, c1, c2, c3, c4, c5, c6, c7, c8⟩ := H4.out.b1.im; have f0 := H4.out.b1.frozen 0; have f1 := H4.out.b1.frozen 1; have f2 := H4.out.b1.frozen 2; have f3 := H4.out.b1.frozen 3; have f4 := H4.out.b1.frozen 4; have f5 := H4.out.b1.frozen 5; have f6 := H4.out.b1.frozen 6; have f7 := H4.out.b1.frozen 7; have f8 := H4.out.b1.frozen 8; have H5 := Lib.hid (H4.out.wrote (y := ⟨x.mod, x.nam, x.kind, 0, 0, 0, false, 0, false⟩) (gb_put1 w5 (w.heap.size + 1) 2 (.int .u8 x.kind.toNat)) (H4.out.b1.put 2 (.int .u8 x.kind.toNat)))))
    | (have tok := H2; go_at_call 36; go_must ((with_reducible refine (HN2.out _ H2.out.sc H2.out.tb).mono ?_); rintro e w3 ⟨rfl, hs, hg⟩; clear c0 f0 c1 f1 c2 f2 c3 f3 c4 f4 c5 f5 c6 f6 c7 f7 c8 f8; have H2b := Lib.hid (H2.out.step hs hg); clear hs hg; obtain ⟨c0, c1, c2, c3, c4, c5, c6, c7, c8⟩ := H2b.out.b1.im; have f0 := H2b.out.b1.frozen 0; have f1 := H2b.out.b1.frozen 1; have f2 := H2b.out.b1.frozen 2; have f3 := H2b.out.b1.frozen 3; have f4 := H2b.out.b1.frozen 4; have f5 := H2b.out.b1.frozen 5; have f6 := H2b.out.b1.frozen 6; have f7 := H2b.out.b1.frozen 7; have f8 := H2b.out.b1.frozen 8; have H3 := Lib.hid (H2b.out.wrote (y := ⟨x.mod, x.nam, 0, 0, 0, 0, false, 0, false⟩) (gb_put1 w3 (w.heap.size + 1) 1 (.string (S x.nam))) (H2b.out.b1.put 1 (.string (S x.nam))))))
    | (go_at_call 36; go_must ((with_reducible refine HN1.out.mono ?_); rintro e w1 ⟨rfl, hs, hg⟩; have H1 := Lib.hid (H0.out.step hs hg); clear hs hg; obtain ⟨c0, c1, c2, c3, c4, c5, c6, c7, c8⟩ := H1.out.b1.im; have f0 := H1.out.b1.frozen 0; have f1 := H1.out.b1.frozen 1; have f2 := H1.out.b1.frozen 2; have f3 := H1.out.b1.frozen 3; have f4 := H1.out.b1.frozen 4; have f5 := H1.out.b1.frozen 5; have f6 := H1.out.b1.frozen 6; have f7 := H1.out.b1.frozen 7; have f8 := H1.out.b1.frozen 8; have H2 := Lib.hid (H1.out.wrote (y := ⟨x.mod, [], 0, 0, 0, 0, false, 0, false⟩) (gb_put1 w1 (w.heap.size + 1) 0 (.string (S x.mod))) (H1.out.b1.put 0 (.string (S x.mod)))))))
  clear c0 f0 c1 f1 c2 f2 c3 f3 c4 f4 c5 f5 c6 f6 c7 f7 c8 f8
  generalize w5.setCell ⟨w.heap.size + 1, 2, none⟩ (.int .u8 x.kind.toNat) = W5 at *
  obtain ⟨c0, c1, c2, c3, c4, c5, c6, c7, c8⟩ := H5.out.b1.im
  have f0 := H5.out.b1.frozen 0
  have f1 := H5.out.b1.frozen 1
  have f2 := H5.out.b1.frozen 2
  have f3 := H5.out.b1.frozen 3
  have f4 := H5.out.b1.frozen 4
  have f5 := H5.out.b1.frozen 5
  have f6 := H5.out.b1.frozen 6
  have f7 := H5.out.b1.frozen 7
  have f8 := H5.out.b1.frozen 8
  go_upto_region 14 with (go_at_call 38; go_must ((with_reducible refine (HV.out _ H5.out.sc).mono ?_); rintro e w6 ⟨rfl, hs, hg⟩; clear c0 f0 c1 f1 c2 f2 c3 f3 c4 f4 c5 f5 c6 f6 c7 f7 c8 f8; have H6 := Lib.hid (H5.out.step hs hg); clear hs hg; obtain ⟨c0, c1, c2, c3, c4, c5, c6, c7, c8⟩ := H6.out.b1.im; have f0 := H6.out.b1.frozen 0; have f1 := H6.out.b1.frozen 1; have f2 := H6.out.b1.frozen 2; have f3 := H6.out.b1.frozen 3; have f4 := H6.out.b1.frozen 4; have f5 := H6.out.b1.frozen 5; have f6 := H6.out.b1.frozen 6; have f7 := H6.out.b1.frozen 7; have f8 := H6.out.b1.frozen 8; have H7 := Lib.hid (H6.out.wrote (y := ⟨x.mod, x.nam, x.kind, x.typ, 0, 0, false, 0, false⟩) (gb_put (p := ⟨w.heap.size + 1, 3, none⟩) (gb_refl w6 _) (.inl rfl) (.int .u32 x.typ.toNat)) (H6.out.b1.put 3 (.int .u32 x.typ.toNat)))))
  clear c0 f0 c1 f1 c2 f2 c3 f3 c4 f4 c5 f5 c6 f6 c7 f7 c8 f8
  generalize (w6.setCell ⟨w.heap.size + 1, 3, none⟩ (.int .u32 x.typ.toNat)) = W7 at *
  rw [← HX.out] at H7
  obtain ⟨c0, c1, c2, c3, c4, c5, c6, c7, c8⟩ := H7.out.b1.im
  have f0 := H7.out.b1.frozen 0
  have f1 := H7.out.b1.frozen 1
  have f2 := H7.out.b1.frozen 2
  have f3 := H7.out.b1.frozen 3
  have f4 := H7.out.b1.frozen 4
  have f5 := H7.out.b1.frozen 5
  have f6 := H7.out.b1.frozen 6
  have f7 := H7.out.b1.frozen 7
  have f8 := H7.out.b1.frozen 8
  obtain ⟨z0, z1, z2, z3, z4, z5, z6, z7, z8⟩ := H7.out.b0.im
  have y0 := H7.out.b0.frozen 0
  have y1 := H7.out.b0.frozen 1
  have y2 := H7.out.b0.frozen 2
  have y3 := H7.out.b0.frozen 3
  have y4 := H7.out.b0.frozen 4
  have y5 := H7.out.b0.frozen 5
  have y6 := H7.out.b0.frozen 6
  have y7 := H7.out.b0.frozen 7
  have y8 := H7.out.b0.frozen 8
  go_wp2
  obtain ⟨hW, hS, hG⟩ := got_end H7.out rfl
  obtain ⟨q0, q1, q2, q3, q4, q5, q6, q7, q8⟩ := hW.im
  exact bodyPost_ret (v := imV x) (by simp [results, Tryd.results13, go_sem, q0, q1, q2, q3, q4, q5, q6, q7, q8]) rfl ⟨rfl, hS, hG⟩
set_option maxHeartbeats 4000000 in
theorem get_1 {w : World} {p : Nat} {l : List UInt8} {k k1 k2 k3 k4 : Nat} {x : Im} (h : Sc w p l k) (hT : TbN p w) (h1 : nameR l k = .ok x.mod k1) (h2 : nameR l k1 = .ok x.nam k2) (h3 : byteR l k2 = .ok x.kind k3)
    (hk : x.kind.toNat = 1) {kt : Nat} (ht : tagR l k3 112 = .ok () kt) (hv : limR l kt = .ok ((x.mn.toNat : Int), (x.mx.toNat : Int), x.bd) k4) (hx : x = ⟨x.mod, x.nam, x.kind, 0, x.mn, x.mx, x.bd, 0, false⟩) : Calls Tryd.prog 13 #[.pointer (some ⟨p, 0, none⟩)] w (Gots p l k4 x w) := by
  have H0 := Lib.hid (GIn.start h hT)
  have hN := name_scan H0.out.sc H0.out.tb
  rw [h1] at hN
  have HN1 := Lib.hid hN
  have HN2 := Lib.hid (fun W (hs : Sc W p l k1) (hb : TbN p W) => by have := name_scan hs hb; rw [h2] at this; exact this)
  have HK := Lib.hid (fun W (hs : Sc W p l k2) => nk_ok hs h3 (by omega))
  have HV := Lib.hid (fun W (hs : Sc W p l k3) => table_ok hs ht hv)
  have d0 : ((x.kind.toNat : Int) == 0) = false := be_of (by simp; omega)
  have d1 : ((x.kind.toNat : Int) == 1) = true := be_of (by simp; omega)
  have HX := Lib.hid hx
  obtain ⟨c0, c1, c2, c3, c4, c5, c6, c7, c8⟩ := H0.out.b1.im
  clear h hT hN h1 h2 h3 hk hv ht hx c0 c1 c2 c3 c4 c5 c6 c7 c8
  go_enter Tryd.func13, Tryd.ntmps13
  go_upto_region 5 with (first
    | (have tok := H3; go_at_call 37; go_must ((with_reducible refine (HK.out _ H3.out.sc).mono ?_); rintro e w5 ⟨rfl, hs, hg⟩; clear c0 f0 c1 f1 c2 f2 c3 f3 c4 f4 c5 f5 c6 f6 c7 f7 c8 f8; have H4 := Lib.hid (H3.out.step hs hg); clear hs hg; obtain ⟨c0, c1, c2, c3, c4, c5, c6, c7, c8⟩ := H4.out.b1.im; have f0 := H4.out.b1.frozen 0; have f1 := H4.out.b1.frozen 1; have f2 := H4.out.b1.frozen 2; have f3 := H4.out.b1.frozen 3; have f4 := H4.out.b1.frozen 4; have f5 := H4.out.b1.frozen 5; have f6 := H4.out.b1.frozen 6; have f7 := H4.out.b1.frozen 7; have f8 := H4.out.b1.frozen 8; have H5 := Lib.hid (H4.out.wrote (y := ⟨x.mod, x.nam, x.kind, 0, 0, 0, false, 0, false⟩) (gb_put1 w5 (w.heap.size + 1) 2 (.int .u8 x.kind.toNat)) (H4.out.b1.put 2 (.int .u8 x.kind.toNat)))))
    | (have tok := H2; go_at_call 36; go_must ((with_reducible refine (HN2.out _ H2.out.sc H2.out.tb).mono ?_); rintro e w3 ⟨rfl, hs, hg⟩; clear c0 f0 c1 f1 c2 f2 c3 f3 c4 f4 c5 f5 c6 f6 c7 f7 c8 f8; have H2b := Lib.hid (H2.out.step hs hg); clear hs hg; obtain ⟨c0, c1, c2, c3, c4, c5, c6, c7, c8⟩ := H2b.out.b1.im; have f0 := H2b.out.b1.frozen 0; have f1 := H2b.out.b1.frozen 1; have f2 := H2b.out.b1.frozen 2; have f3 := H2b.out.b1.frozen 3; have f4 := H2b.out.b1.frozen 4; have f5 := H2b.out.b1.frozen 5; have f6 := H2b.out.b1.frozen 6; have f7 := H2b.out.b1.frozen 7; have f8 := H2b.out.b1.frozen 8; have H3 := Lib.hid (H2b.out.wrote (y := ⟨x.mod, x.nam, 0, 0, 0, 0, false, 0, false⟩) (gb_put1 w3 (w.heap.size + 1) 1 (.string (S x.nam))) (H2b.out.b1.put 1 (.string (S x.nam))))))
    | (go_at_call 36; go_must ((with_reducible refine HN1.out.mono ?_); rintro e w1 ⟨rfl, hs, hg⟩; have H1 := Lib.hid (H0.out.step hs hg); clear hs hg; obtain ⟨c0, c1, c2, c3, c4, c5, c6, c7, c8⟩ := H1.out.b1.im; have f0 := H1.out.b1.frozen 0; have f1 := H1.out.b1.frozen 1; have f2 := H1.out.b1.frozen 2; have f3 := H1.out.b1.frozen 3; have f4 := H1.out.b1.frozen 4; have f5 := H1.out.b1.frozen 5; have f6 := H1.out.b1.frozen 6; have f7 := H1.out.b1.frozen 7; have f8 := H1.out.b1.frozen 8; have H2 := Lib.hid (H1.out.wrote (y := ⟨x.mod, [], 0, 0, 0, 0, false, 0, false⟩) (gb_put1 w1 (w.heap.size + 1) 0 (.string (S x.mod))) (H1.out.b1.put 0 (.string (S x.mod)))))))
  clear c0 f0 c1 f1 c2 f2 c3 f3 c4 f4 c5 f5 c6 f6 c7 f7 c8 f8
  generalize w5.setCell ⟨w.heap.size + 1, 2, none⟩ (.int .u8 x.kind.toNat) = W5 at *
  obtain ⟨c0, c1, c2, c3, c4, c5, c6, c7, c8⟩ := H5.out.b1.im
  have f0 := H5.out.b1.frozen 0
  have f1 := H5.out.b1.frozen 1
  have f2 := H5.out.b1.frozen 2
  have f3 := H5.out.b1.frozen 3
  have f4 := H5.out.b1.frozen 4
  have f5 := H5.out.b1.frozen 5
  have f6 := H5.out.b1.frozen 6
  have f7 := H5.out.b1.frozen 7
  have f8 := H5.out.b1.frozen 8
  go_upto_region 14 with (go_at_call 39; go_must ((with_reducible refine (HV.out _ H5.out.sc).mono ?_); rintro e w6 ⟨rfl, hs, hg⟩; clear c0 f0 c1 f1 c2 f2 c3 f3 c4 f4 c5 f5 c6 f6 c7 f7 c8 f8; have H6 := Lib.hid (H5.out.step hs hg); clear hs hg; obtain ⟨c0, c1, c2, c3, c4, c5, c6, c7, c8⟩ := H6.out.b1.im; have f0 := H6.out.b1.frozen 0; have f1 := H6.out.b1.frozen 1; have f2 := H6.out.b1.frozen 2; have f3 := H6.out.b1.frozen 3; have f4 := H6.out.b1.frozen 4; have f5 := H6.out.b1.frozen 5; have f6 := H6.out.b1.frozen 6; have f7 := H6.out.b1.frozen 7; have f8 := H6.out.b1.frozen 8; have H7 := Lib.hid (H6.out.wrote (y := ⟨x.mod, x.nam, x.kind, 0, x.mn, x.mx, x.bd, 0, false⟩) (gb_put (p := ⟨w.heap.size + 1, 6, none⟩) (gb_put (p := ⟨w.heap.size + 1, 5, none⟩) (gb_put (p := ⟨w.heap.size + 1, 4, none⟩) (gb_refl w6 _) (.inl rfl) (.int .u32 x.mn.toNat)) (.inl rfl) (.int .u32 x.mx.toNat)) (.inl rfl) (.bool x.bd)) (((H6.out.b1.put 4 (.int .u32 x.mn.toNat)).put 5 (.int .u32 x.mx.toNat)).put 6 (.bool x.bd)))))
  clear c0 f0 c1 f1 c2 f2 c3 f3 c4 f4 c5 f5 c6 f6 c7 f7 c8 f8
  generalize (((w6.setCell ⟨w.heap.size + 1, 4, none⟩ (.int .u32 x.mn.toNat)).setCell ⟨w.heap.size + 1, 5, none⟩ (.int .u32 x.mx.toNat)).setCell ⟨w.heap.size + 1, 6, none⟩ (.bool x.bd)) = W7 at *
  rw [← HX.out] at H7
  obtain ⟨c0, c1, c2, c3, c4, c5, c6, c7, c8⟩ := H7.out.b1.im
  have f0 := H7.out.b1.frozen 0
  have f1 := H7.out.b1.frozen 1
  have f2 := H7.out.b1.frozen 2
  have f3 := H7.out.b1.frozen 3
  have f4 := H7.out.b1.frozen 4
  have f5 := H7.out.b1.frozen 5
  have f6 := H7.out.b1.frozen 6
  have f7 := H7.out.b1.frozen 7
  have f8 := H7.out.b1.frozen 8
  obtain ⟨z0, z1, z2, z3, z4, z5, z6, z7, z8⟩ := H7.out.b0.im
  have y0 := H7.out.b0.frozen 0
  have y1 := H7.out.b0.frozen 1
  have y2 := H7.out.b0.frozen 2
  have y3 := H7.out.b0.frozen 3
  have y4 := H7.out.b0.frozen 4
  have y5 := H7.out.b0.frozen 5
  have y6 := H7.out.b0.frozen 6
  have y7 := H7.out.b0.frozen 7
  have y8 := H7.out.b0.frozen 8
  go_wp2
  obtain ⟨hW, hS, hG⟩ := got_end H7.out rfl
  obtain ⟨q0, q1, q2, q3, q4, q5, q6, q7, q8⟩ := hW.im
  exact bodyPost_ret (v := imV x) (by simp [results, Tryd.results13, go_sem, q0, q1, q2, q3, q4, q5, q6, q7, q8]) rfl ⟨rfl, hS, hG⟩
set_option maxHeartbeats 4000000 in
theorem get_2 {w : World} {p : Nat} {l : List UInt8} {k k1 k2 k3 k4 : Nat} {x : Im} (h : Sc w p l k) (hT : TbN p w) (h1 : nameR l k = .ok x.mod k1) (h2 : nameR l k1 = .ok x.nam k2) (h3 : byteR l k2 = .ok x.kind k3)
    (hk : x.kind.toNat = 2) (hv : limR l k3 = .ok ((x.mn.toNat : Int), (x.mx.toNat : Int), x.bd) k4) (hx : x = ⟨x.mod, x.nam, x.kind, 0, x.mn, x.mx, x.bd, 0, false⟩) : Calls Tryd.prog 13 #[.pointer (some ⟨p, 0, none⟩)] w (Gots p l k4 x w) := by
  have H0 := Lib.hid (GIn.start h hT)
  have hN := name_scan H0.out.sc H0.out.tb
  rw [h1] at hN
  have HN1 := Lib.hid hN
  have HN2 := Lib.hid (fun W (hs : Sc W p l k1) (hb : TbN p W) => by have := name_scan hs hb; rw [h2] at this; exact this)
  have HK := Lib.hid (fun W (hs : Sc W p l k2) => nk_ok hs h3 (by omega))
  have HV := Lib.hid (fun W (hs : Sc W p l k3) => by have := limits_scan hs; rw [hv] at this; exact this)
  have d0 : ((x.kind.toNat : Int) == 0) = false := be_of (by simp; omega)
  have d1 : ((x.kind.toNat : Int) == 1) = false := be_of (by simp; omega)
  have d2 : ((x.kind.toNat : Int) == 2) = true := be_of (by simp; omega)
  have HX := Lib.hid hx
  obtain ⟨c0, c1, c2, c3, c4, c5, c6, c7, c8⟩ := H0.out.b1.im
  clear h hT hN h1 h2 h3 hk hv hx c0 c1 c2 c3 c4 c5 c6 c7 c8
  go_enter Tryd.func13, Tryd.ntmps13
  go_upto_region 5 with (first
    | (have tok := H3; go_at_call 37; go_must ((with_reducible refine (HK.out _ H3.out.sc).mono ?_); rintro e w5 ⟨rfl, hs, hg⟩; clear c0 f0 c1 f1 c2 f2 c3 f3 c4 f4 c5 f5 c6 f6 c7 f7 c8 f8; have H4 := Lib.hid (H3.out.step hs hg); clear hs hg; obtain ⟨c0, c1, c2, c3, c4, c5, c6, c7, c8⟩ := H4.out.b1.im; have f0 := H4.out.b1.frozen 0; have f1 := H4.out.b1.frozen 1; have f2 := H4.out.b1.frozen 2; have f3 := H4.out.b1.frozen 3; have f4 := H4.out.b1.frozen 4; have f5 := H4.out.b1.frozen 5; have f6 := H4.out.b1.frozen 6; have f7 := H4.out.b1.frozen 7; have f8 := H4.out.b1.frozen 8; have H5 := Lib.hid (H4.out.wrote (y := ⟨x.mod, x.nam, x.kind, 0, 0, 0, false, 0, false⟩) (gb_put1 w5 (w.heap.size + 1) 2 (.int .u8 x.kind.toNat)) (H4.out.b1.put 2 (.int .u8 x.kind.toNat)))))
    | (have tok := H2; go_at_call 36; go_must ((with_reducible refine (HN2.out _ H2.out.sc H2.out.tb).mono ?_); rintro e w3 ⟨rfl, hs, hg⟩; clear c0 f0 c1 f1 c2 f2 c3 f3 c4 f4 c5 f5 c6 f6 c7 f7 c8 f8; have H2b := Lib.hid (H2.out.step hs hg); clear hs hg; obtain ⟨c0, c1, c2, c3, c4, c5, c6, c7, c8⟩ := H2b.out.b1.im; have f0 := H2b.out.b1.frozen 0; have f1 := H2b.out.b1.frozen 1; have f2 := H2b.out.b1.frozen 2; have f3 := H2b.out.b1.frozen 3; have f4 := H2b.out.b1.frozen 4; have f5 := H2b.out.b1.frozen 5; have f6 := H2b.out.b1.frozen 6; have f7 := H2b.out.b1.frozen 7; have f8 := H2b.out.b1.frozen 8; have H3 := Lib.hid (H2b.out.wrote (y := ⟨x.mod, x.nam, 0, 0, 0, 0, false, 0, false⟩) (gb_put1 w3 (w.heap.size + 1) 1 (.string (S x.nam))) (H2b.out.b1.put 1 (.string (S x.nam))))))
    | (go_at_call 36; go_must ((with_reducible refine HN1.out.mono ?_); rintro e w1 ⟨rfl, hs, hg⟩; have H1 := Lib.hid (H0.out.step hs hg); clear hs hg; obtain ⟨c0, c1, c2, c3, c4, c5, c6, c7, c8⟩ := H1.out.b1.im; have f0 := H1.out.b1.frozen 0; have f1 := H1.out.b1.frozen 1; have f2 := H1.out.b1.frozen 2; have f3 := H1.out.b1.frozen 3; have f4 := H1.out.b1.frozen 4; have f5 := H1.out.b1.frozen 5; have f6 := H1.out.b1.frozen 6; have f7 := H1.out.b1.frozen 7; have f8 := H1.out.b1.frozen 8; have H2 := Lib.hid (H1.out.wrote (y := ⟨x.mod, [], 0, 0, 0, 0, false, 0, false⟩) (gb_put1 w1 (w.heap.size + 1) 0 (.string (S x.mod))) (H1.out.b1.put 0 (.string (S x.mod)))))))
  clear c0 f0 c1 f1 c2 f2 c3 f3 c4 f4 c5 f5 c6 f6 c7 f7 c8 f8
  generalize w5.setCell ⟨w.heap.size + 1, 2, none⟩ (.int .u8 x.kind.toNat) = W5 at *
  obtain ⟨c0, c1, c2, c3, c4, c5, c6, c7, c8⟩ := H5.out.b1.im
  have f0 := H5.out.b1.frozen 0
  have f1 := H5.out.b1.frozen 1
  have f2 := H5.out.b1.frozen 2
  have f3 := H5.out.b1.frozen 3
  have f4 := H5.out.b1.frozen 4
  have f5 := H5.out.b1.frozen 5
  have f6 := H5.out.b1.frozen 6
  have f7 := H5.out.b1.frozen 7
  have f8 := H5.out.b1.frozen 8
  go_upto_region 14 with (go_at_call 40; go_must ((with_reducible refine (HV.out _ H5.out.sc).mono ?_); rintro e w6 ⟨rfl, hs, hg⟩; clear c0 f0 c1 f1 c2 f2 c3 f3 c4 f4 c5 f5 c6 f6 c7 f7 c8 f8; have H6 := Lib.hid (H5.out.step hs hg); clear hs hg; obtain ⟨c0, c1, c2, c3, c4, c5, c6, c7, c8⟩ := H6.out.b1.im; have f0 := H6.out.b1.frozen 0; have f1 := H6.out.b1.frozen 1; have f2 := H6.out.b1.frozen 2; have f3 := H6.out.b1.frozen 3; have f4 := H6.out.b1.frozen 4; have f5 := H6.out.b1.frozen 5; have f6 := H6.out.b1.frozen 6; have f7 := H6.out.b1.frozen 7; have f8 := H6.out.b1.frozen 8; have H7 := Lib.hid (H6.out.wrote (y := ⟨x.mod, x.nam, x.kind, 0, x.mn, x.mx, x.bd, 0, false⟩) (gb_put (p := ⟨w.heap.size + 1, 6, none⟩) (gb_put (p := ⟨w.heap.size + 1, 5, none⟩) (gb_put (p := ⟨w.heap.size + 1, 4, none⟩) (gb_refl w6 _) (.inl rfl) (.int .u32 x.mn.toNat)) (.inl rfl) (.int .u32 x.mx.toNat)) (.inl rfl) (.bool x.bd)) (((H6.out.b1.put 4 (.int .u32 x.mn.toNat)).put 5 (.int .u32 x.mx.toNat)).put 6 (.bool x.bd)))))
  clear c0 f0 c1 f1 c2 f2 c3 f3 c4 f4 c5 f5 c6 f6 c7 f7 c8 f8
  generalize (((w6.setCell ⟨w.heap.size + 1, 4, none⟩ (.int .u32 x.mn.toNat)).setCell ⟨w.heap.size + 1, 5, none⟩ (.int .u32 x.mx.toNat)).setCell ⟨w.heap.size + 1, 6, none⟩ (.bool x.bd)) = W7 at *
  rw [← HX.out] at H7
  obtain ⟨c0, c1, c2, c3, c4, c5, c6, c7, c8⟩ := H7.out.b1.im
  have f0 := H7.out.b1.frozen 0
  have f1 := H7.out.b1.frozen 1
  have f2 := H7.out.b1.frozen 2
  have f3 := H7.out.b1.frozen 3
  have f4 := H7.out.b1.frozen 4
  have f5 := H7.out.b1.frozen 5
  have f6 := H7.out.b1.frozen 6
  have f7 := H7.out.b1.frozen 7
  have f8 := H7.out.b1.frozen 8
  obtain ⟨z0, z1, z2, z3, z4, z5, z6, z7, z8⟩ := H7.out.b0.im
  have y0 := H7.out.b0.frozen 0
  have y1 := H7.out.b0.frozen 1
  have y2 := H7.out.b0.frozen 2
  have y3 := H7.out.b0.frozen 3
  have y4 := H7.out.b0.frozen 4
  have y5 := H7.out.b0.frozen 5
  have y6 := H7.out.b0.frozen 6
  have y7 := H7.out.b0.frozen 7
  have y8 := H7.out.b0.frozen 8
  go_wp2
  obtain ⟨hW, hS, hG⟩ := got_end H7.out rfl
  obtain ⟨q0, q1, q2, q3, q4, q5, q6, q7, q8⟩ := hW.im
  exact bodyPost_ret (v := imV x) (by simp [results, Tryd.results13, go_sem, q0, q1, q2, q3, q4, q5, q6, q7, q8]) rfl ⟨rfl, hS, hG⟩
set_option maxHeartbeats 4000000 in
theorem get_3 {w : World} {p : Nat} {l : List UInt8} {k k1 k2 k3 k4 : Nat} {x : Im} (h : Sc w p l k) (hT : TbN p w) (h1 : nameR l k = .ok x.mod k1) (h2 : nameR l k1 = .ok x.nam k2) (h3 : byteR l k2 = .ok x.kind k3)
    (hk : x.kind.toNat = 3) (hv : globR l k3 = .ok (x.gt, x.gm) k4) (hx : x = ⟨x.mod, x.nam, x.kind, 0, 0, 0, false, x.gt, x.gm⟩) : Calls Tryd.prog 13 #[.pointer (some ⟨p, 0, none⟩)] w (Gots p l k4 x w) := by
  have H0 := Lib.hid (GIn.start h hT)
  have hN := name_scan H0.out.sc H0.out.tb
  rw [h1] at hN
  have HN1 := Lib.hid hN
  have HN2 := Lib.hid (fun W (hs : Sc W p l k1) (hb : TbN p W) => by have := name_scan hs hb; rw [h2] at this; exact this)
  have HK := Lib.hid (fun W (hs : Sc W p l k2) => nk_ok hs h3 (by omega))
  have HV := Lib.hid (fun W (hs : Sc W p l k3) => by have := global_scan hs; rw [hv] at this; exact this)
  have d0 : ((x.kind.toNat : Int) == 0) = false := be_of (by simp; omega)
  have d1 : ((x.kind.toNat : Int) == 1) = false := be_of (by simp; omega)
  have d2 : ((x.kind.toNat : Int) == 2) = false := be_of (by simp; omega)
  have d3 : ((x.kind.toNat : Int) == 3) = true := be_of (by simp; omega)
  have HX := Lib.hid hx
  obtain ⟨c0, c1, c2, c3, c4, c5, c6, c7, c8⟩ := H0.out.b1.im
  clear h hT hN h1 h2 h3 hk hv hx c0 c1 c2 c3 c4 c5 c6 c7 c8
  go_enter Tryd.func13, Tryd.ntmps13
  go_upto_region 5 with (first
    | (have tok := H3; go_at_call 37; go_must ((with_reducible refine (HK.out _ H3.out.sc).mono ?_); rintro e w5 ⟨rfl, hs, hg⟩; clear c0 f0 c1 f1 c2 f2 c3 f3 c4 f4 c5 f5 c6 f6 c7 f7 c8 f8; have H4 := Lib.hid (H3.out.step hs hg); clear hs hg; obtain ⟨c0, c1, c2, c3, c4, c5, c6, c7, c8⟩ := H4.out.b1.im; have f0 := H4.out.b1.frozen 0; have f1 := H4.out.b1.frozen 1; have f2 := H4.out.b1.frozen 2; have f3 := H4.out.b1.frozen 3; have f4 := H4.out.b1.frozen 4; have f5 := H4.out.b1.frozen 5; have f6 := H4.out.b1.frozen 6; have f7 := H4.out.b1.frozen 7; have f8 := H4.out.b1.frozen 8; have H5 := Lib.hid (H4.out.wrote (y := ⟨x.mod, x.nam, x.kind, 0, 0, 0, false, 0, false⟩) (gb_put1 w5 (w.heap.size + 1) 2 (.int .u8 x.kind.toNat)) (H4.out.b1.put 2 (.int .u8 x.kind.toNat)))))
    | (have tok := H2; go_at_call 36; go_must ((with_reducible refine (HN2.out _ H2.out.sc H2.out.tb).mono ?_); rintro e w3 ⟨rfl, hs, hg⟩; clear c0 f0 c1 f1 c2 f2 c3 f3 c4 f4 c5 f5 c6 f6 c7 f7 c8 f8; have H2b := Lib.hid (H2.out.step hs hg); clear hs hg; obtain ⟨c0, c1, c2, c3, c4, c5, c6, c7, c8⟩ := H2b.out.b1.im; have f0 := H2b.out.b1.frozen 0; have f1 := H2b.out.b1.frozen 1; have f2 := H2b.out.b1.frozen 2; have f3 := H2b.out.b1.frozen 3; have f4 := H2b.out.b1.frozen 4; have f5 := H2b.out.b1.frozen 5; have f6 := H2b.out.b1.frozen 6; have f7 := H2b.out.b1.frozen 7; have f8 := H2b.out.b1.frozen 8; have H3 := Lib.hid (H2b.out.wrote (y := ⟨x.mod, x.nam, 0, 0, 0, 0, false, 0, false⟩) (gb_put1 w3 (w.heap.size + 1) 1 (.string (S x.nam))) (H2b.out.b1.put 1 (.string (S x.nam))))))
    | (go_at_call 36; go_must ((with_reducible refine HN1.out.mono ?_); rintro e w1 ⟨rfl, hs, hg⟩; have H1 := Lib.hid (H0.out.step hs hg); clear hs hg; obtain ⟨c0, c1, c2, c3, c4, c5, c6, c7, c8⟩ := H1.out.b1.im; have f0 := H1.out.b1.frozen 0; have f1 := H1.out.b1.frozen 1; have f2 := H1.out.b1.frozen 2; have f3 := H1.out.b1.frozen 3; have f4 := H1.out.b1.frozen 4; have f5 := H1.out.b1.frozen 5; have f6 := H1.out.b1.frozen 6; have f7 := H1.out.b1.frozen 7; have f8 := H1.out.b1.frozen 8; have H2 := Lib.hid (H1.out.wrote (y := ⟨x.mod, [], 0, 0, 0, 0, false, 0, false⟩) (gb_put1 w1 (w.heap.size + 1) 0 (.string (S x.mod))) (H1.out.b1.put 0 (.string (S x.mod)))))))
  clear c0 f0 c1 f1 c2 f2 c3 f3 c4 f4 c5 f5 c6 f6 c7 f7 c8 f8
  generalize w5.setCell ⟨w.heap.size + 1, 2, none⟩ (.int .u8 x.kind.toNat) = W5 at *
  obtain ⟨c0, c1, c2, c3, c4, c5, c6, c7, c8⟩ := H5.out.b1.im
  have f0 := H5.out.b1.frozen 0
  have f1 := H5.out.b1.frozen 1
  have f2 := H5.out.b1.frozen 2
  have f3 := H5.out.b1.frozen 3
  have f4 := H5.out.b1.frozen 4
  have f5 := H5.out.b1.frozen 5
  have f6 := H5.out.b1.frozen 6
  have f7 := H5.out.b1.frozen 7
  have f8 := H5.out.b1.frozen 8
  go_upto_region 14 with (go_at_call 41; go_must ((with_reducible refine (HV.out _ H5.out.sc).mono ?_); rintro e w6 ⟨rfl, hs, hg⟩; clear c0 f0 c1 f1 c2 f2 c3 f3 c4 f4 c5 f5 c6 f6 c7 f7 c8 f8; have H6 := Lib.hid (H5.out.step hs hg); clear hs hg; obtain ⟨c0, c1, c2, c3, c4, c5, c6, c7, c8⟩ := H6.out.b1.im; have f0 := H6.out.b1.frozen 0; have f1 := H6.out.b1.frozen 1; have f2 := H6.out.b1.frozen 2; have f3 := H6.out.b1.frozen 3; have f4 := H6.out.b1.frozen 4; have f5 := H6.out.b1.frozen 5; have f6 := H6.out.b1.frozen 6; have f7 := H6.out.b1.frozen 7; have f8 := H6.out.b1.frozen 8; have H7 := Lib.hid (H6.out.wrote (y := ⟨x.mod, x.nam, x.kind, 0, 0, 0, false, x.gt, x.gm⟩) (gb_put (p := ⟨w.heap.size + 1, 8, none⟩) (gb_put (p := ⟨w.heap.size + 1, 7, none⟩) (gb_refl w6 _) (.inl rfl) (.int .u8 x.gt.toNat)) (.inl rfl) (.bool x.gm)) ((H6.out.b1.put 7 (.int .u8 x.gt.toNat)).put 8 (.bool x.gm)))))
  clear c0 f0 c1 f1 c2 f2 c3 f3 c4 f4 c5 f5 c6 f6 c7 f7 c8 f8
  generalize ((w6.setCell ⟨w.heap.size + 1, 7, none⟩ (.int .u8 x.gt.toNat)).setCell ⟨w.heap.size + 1, 8, none⟩ (.bool x.gm)) = W7 at *
  rw [← HX.out] at H7
  obtain ⟨c0, c1, c2, c3, c4, c5, c6, c7, c8⟩ := H7.out.b1.im
  have f0 := H7.out.b1.frozen 0
  have f1 := H7.out.b1.frozen 1
  have f2 := H7.out.b1.frozen 2
  have f3 := H7.out.b1.frozen 3
  have f4 := H7.out.b1.frozen 4
  have f5 := H7.out.b1.frozen 5
  have f6 := H7.out.b1.frozen 6
  have f7 := H7.out.b1.frozen 7
  have f8 := H7.out.b1.frozen 8
  obtain ⟨z0, z1, z2, z3, z4, z5, z6, z7, z8⟩ := H7.out.b0.im
  have y0 := H7.out.b0.frozen 0
  have y1 := H7.out.b0.frozen 1
  have y2 := H7.out.b0.frozen 2
  have y3 := H7.out.b0.frozen 3
  have y4 := H7.out.b0.frozen 4
  have y5 := H7.out.b0.frozen 5
  have y6 := H7.out.b0.frozen 6
  have y7 := H7.out.b0.frozen 7
  have y8 := H7.out.b0.frozen 8
  go_wp2
  obtain ⟨hW, hS, hG⟩ := got_end H7.out rfl
  obtain ⟨q0, q1, q2, q3, q4, q5, q6, q7, q8⟩ := hW.im
  exact bodyPost_ret (v := imV x) (by simp [results, Tryd.results13, go_sem, q0, q1, q2, q3, q4, q5, q6, q7, q8]) rfl ⟨rfl, hS, hG⟩
end Go.Proofs.YtdogjinjbnlgdaaDoor
