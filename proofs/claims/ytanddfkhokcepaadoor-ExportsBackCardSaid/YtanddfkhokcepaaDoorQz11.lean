/- Imports that lie somewhere; rows of imports of the call's own. -/
import Derived.Test.YtanddfkhokcepaaDoorQz10
import Derived.OwnWalk
import Derived.Test.YtanddfkhokcepaaDoorQz05
import Derived.Test.YtanddfkhokcepaaDoorQz01
namespace Go.Proofs.YtanddfkhokcepaaDoor
open Go.RowKit
set_option linter.unusedVariables false
set_option maxRecDepth 100000

def imL (x : Im) : List Value := (imC x).toList
theorem infoIm : (Tryd.prog.info? 49).map (fun i => (i.zero, i.size, i.bytes)) = some (some (imV imZ), 9, 56) := by kernel_rfl
/-- A row of imports of the call's own. -/
def RowM (W : World) (base : Nat) (v : Value) (rows : List Im) : Prop := W.ownsRow base 49 9 v rows.length (rows.flatMap imL)
theorem RowM.nil (W : World) (base : Nat) : RowM W base (.slice none 0 0) [] := World.ownsRow_nil W base _ 9
theorem RowM.slice {W : World} {base : Nat} {v : Value} {rows : List Im} (h : RowM W base v rows) : ∃ A c, v = .slice A rows.length c := by
  rcases h.2 with ⟨rfl, h0⟩ | ⟨g, cap, cur, rfl, _⟩
  · exact ⟨none, 0, by rw [h0]⟩
  · exact ⟨_, cap, rfl⟩
theorem RowM.past {W W' : World} {base b : Nat} {v : Value} {rows : List Im} (h : RowM W base v rows) (hg : W.grownBy W' (some b)) (hb : b < base) : RowM W' base v rows :=
  World.ownsRow.kept h hg (by
    cases hv : v.ownBlock with
    | none => exact .inl rfl
    | some k => exact .inr (by have := (World.ownsRow.lt h k hv).1; simp only [ne_eq, Option.some.injEq]; omega))
theorem RowM.later {W W' : World} {base : Nat} {v : Value} {rows : List Im} (h : RowM W base v rows) (hb : Below W.heap.size W W') : RowM W' base v rows :=
  World.ownsRow.kept h (gb_of_below none hb) (by cases v.ownBlock with
    | none => exact .inl rfl
    | some k => exact .inr (by simp))
theorem RowM.alloc {W : World} {base : Nat} {v : Value} {rows : List Im} (h : RowM W base v rows) (o : Obj) : RowM (W.alloc o) base v rows := World.ownsRow.alloc h o
theorem RowM.mono {W : World} {base base' : Nat} {v : Value} {rows : List Im} (h : RowM W base v rows) (hb : base' ≤ base) : RowM W base' v rows := by
  obtain ⟨h1, h2⟩ := h
  refine ⟨h1, ?_⟩
  rcases h2 with h2 | ⟨g, cap, cur, e, hg, r⟩
  · exact .inl h2
  · exact .inr ⟨g, cap, cur, e, Nat.le_trans hb hg, r⟩
/-- append of a new block of one import. -/
theorem rowM_new {w : World} {ops : Array Oper} {rest : List Oper} {o : Oper} {a : Act} {Q : Exit → Act → World → Prop} (hgd : o.guard = none) (s x : Operand)
    (ho : o.op = .call { callee := .builtin .append, args := #[s, x], argTypes := #[64, 64] })
    (B : Nat) (v : Value) (l : List Im) (hs : a.eval s = v) (hr : RowM w B v l) (g : Nat) (r : Im) (hx : a.eval x = .slice (some ⟨g, 0, none⟩) 1 1)
    (hg : Whole w g 49 (imC r)) (hb : l.length ≤ 10000) (hB : B ≤ w.heap.size)
    (h : ∀ v' w', RowM w' B v' (l ++ [r]) → w.grownBy w' v.ownBlock → wpList Tryd.prog ops Q rest (a.put o.dst v') w') : wpList Tryd.prog ops Q (o :: rest) a w := by
  obtain ⟨i0, hi0, hz0, hz1, hz2⟩ := info_parts infoIm
  refine wpList_append_own _ hgd s x _ ho B 49 i0 _ 9 56 Tryd.underlying64 hi0 hz0 hz1 hz2 rfl (by omega) v _ _ hs hr ⟨g, 0, none⟩ 1 1 (imL r) hx rfl ?_ ?_ (by unfold maxLen; omega) (by omega) hB (fun v' w' h2 h3 _ => h v' w' ?_ h3)
  · intro j u hu
    rw [Go.WideShapes.add_plain, Nat.zero_add, hg.cell, ← Array.getElem?_toList]
    exact hu
  · intro u hu
    unfold imL at hu
    simp only [List.mem_cons, List.not_mem_nil, or_false] at hu
    rcases hu with rfl | rfl | rfl | rfl | rfl | rfl | rfl | rfl | rfl <;> rfl
  · unfold RowM
    rw [List.length_append, List.flatMap_append]
    simpa using h2
/-- Nothing old has turned, and nothing of the row's own is lost. -/
theorem RowM.below {w W W' : World} {base : Nat} {v : Value} {rows : List Im} (h : RowM W base v rows) (hB : base ≤ W.heap.size) (hg : W.grownBy W' v.ownBlock) : Below base W W' :=
  Below.grown (Below.refl _ _) hg hB (fun k hk => (World.ownsRow.lt h k hk).1)

/-- The slice at A reads as these imports. -/
def Ims (w : World) (A : Option Addr) (l : List Im) : Prop :=
  ∀ j x, l[j]? = some x → ∃ b off, A = some ⟨b, off, none⟩ ∧ b < w.heap.size ∧ ∀ u, u < 9 → w.cell? ⟨b, off + j * 9 + u, none⟩ = (imL x)[u]?
theorem Ims.below {w w' : World} {A : Option Addr} {l : List Im} (h : Ims w A l) (hb : Below w.heap.size w w') : Ims w' A l := fun j x hx => by
  obtain ⟨b, off, e, h1, h2⟩ := h j x hx
  exact ⟨b, off, e, Nat.lt_of_lt_of_le h1 hb.size, fun u hu => (hb.cell (p := ⟨b, _, none⟩) h1).trans (h2 u hu)⟩
/-- The nine cells of one of them, as a walk writes them. -/
theorem Ims.nine {w : World} {A : Option Addr} {l : List Im} (h : Ims w A l) {k : Nat} {x : Im} (hx : l[k]? = some x) : ∃ b off, A = some ⟨b, off, none⟩ ∧ b < w.heap.size ∧
    w.cell? ⟨b, off + k * 9, none⟩ = some (.string (S x.mod)) ∧ w.cell? ⟨b, off + k * 9 + 1, none⟩ = some (.string (S x.nam)) ∧ w.cell? ⟨b, off + k * 9 + 2, none⟩ = some (.int .u8 x.kind.toNat) ∧ w.cell? ⟨b, off + k * 9 + 3, none⟩ = some (.int .u32 x.typ.toNat) ∧
    w.cell? ⟨b, off + k * 9 + 4, none⟩ = some (.int .u32 x.mn.toNat) ∧ w.cell? ⟨b, off + k * 9 + 5, none⟩ = some (.int .u32 x.mx.toNat) ∧ w.cell? ⟨b, off + k * 9 + 6, none⟩ = some (.bool x.bd) ∧ w.cell? ⟨b, off + k * 9 + 7, none⟩ = some (.int .u8 x.gt.toNat) ∧ w.cell? ⟨b, off + k * 9 + 8, none⟩ = some (.bool x.gm) := by
  obtain ⟨b, off, e, h1, h2⟩ := h k x hx
  exact ⟨b, off, e, h1, h2 0 (by omega), h2 1 (by omega), h2 2 (by omega), h2 3 (by omega), h2 4 (by omega), h2 5 (by omega), h2 6 (by omega), h2 7 (by omega), h2 8 (by omega)⟩
theorem flatM_get : ∀ (l : List Im) (j : Nat) (x : Im) (u : Nat), l[j]? = some x → u < 9 → (l.flatMap imL)[j * 9 + u]? = (imL x)[u]?
  | [], j, x, u, h, _ => by cases h
  | y :: l, 0, x, u, h, hu => by
    injection h with h
    subst h
    rw [List.flatMap_cons, Nat.zero_mul, Nat.zero_add, List.getElem?_append_left (by show u < 9; exact hu)]
  | y :: l, j + 1, x, u, h, hu => by
    rw [List.flatMap_cons, List.getElem?_append_right (by show 9 ≤ _; omega)]
    have e : (j + 1) * 9 + u - (imL y).length = j * 9 + u := by show (j + 1) * 9 + u - 9 = _; omega
    rw [e]
    exact flatM_get l j x u h hu
/-- What a row of imports reads as. -/
theorem RowM.ims {W : World} {base : Nat} {A : Option Addr} {n c : Nat} {rows : List Im} (h : RowM W base (.slice A n c) rows) : Ims W A rows := fun j x hx => by
  have hj := (List.getElem?_eq_some_iff.1 hx).1
  rcases h.2 with ⟨_, h0⟩ | ⟨g, cap, cur, e, _, hg, _, _, _, ht⟩
  · omega
  · injection e with e1 e2 e3
    exact ⟨g, 0, e1, (Array.getElem?_eq_some_iff.1 hg).1, fun u hu => by
      rw [cell_of_row W g (0 + j * 9 + u) cur _ _ hg, ← flatM_get rows j x u hx hu, ← ht, List.getElem?_take, if_pos (by omega)]
      simp⟩
end Go.Proofs.YtanddfkhokcepaaDoor

/- scan.Table, Get: what is written is read. -/
namespace Go.Proofs.YtanddfkhokcepaaDoor
open Go.RowKit Go.Lib
set_option linter.unusedVariables false
set_option maxRecDepth 100000

theorem table_ok {w : World} {p : Nat} {l : List UInt8} {k k1 k2 : Nat} {a b : Int} {c : Bool} (h : Sc w p l k) (h1 : tagR l k 112 = .ok () k1) (h2 : limR l k1 = .ok (a, b, c) k2) :
    Calls Tryd.prog 80 #[.pointer (some ⟨p, 0, none⟩)] w fun e w' => e = .returned (.agg #[.int .u32 a, .int .u32 b, .bool c]) ∧ Sc w' p l k2 ∧ w.grownBy w' (some p) := by
  have hlt := h.lt
  have hT := tag_scan (h.alloc (.cells #[.int .u32 0, .int .u32 0, .bool false] 45)) 112
  rw [h1] at hT
  have HT := Lib.hid hT
  have HWM := Lib.hid (Whole.made w 45 #[.int .u32 0, .int .u32 0, .bool false])
  have V1 := Lib.hid (fun W (hs : Sc W p l k1) => limits_scan hs)
  rw [h2] at V1
  clear hT h1 h2 h
  go_enter Tryd.func80, Tryd.ntmps80
  go_wp2_with (first
    | (go_at_call 115; go_must ((with_reducible refine HT.out.mono ?_); rintro e w1 ⟨rfl, hs, hg⟩; have HS := Lib.hid hs; have HG := Lib.hid hg; have HW1 := Lib.hid (HWM.out.grown hg (by simp only [ne_eq, Option.some.injEq]; omega)); clear hs hg))
    | (go_at_call 81; go_must ((with_reducible refine (V1.out _ HS.out).mono ?_); rintro e w2 ⟨rfl, hs, hg⟩; have HS2 := Lib.hid hs; have HG2 := Lib.hid hg; have HW2 := Lib.hid (HW1.out.grown hg (by simp only [ne_eq, Option.some.injEq]; omega)); have g0 := HW2.out.frozen 0; have g1 := HW2.out.frozen 1; have g2 := HW2.out.frozen 2; have k0 := HW2.out.cell 0; have k1' := HW2.out.cell 1; have k2' := HW2.out.cell 2; simp only [List.getElem?_toArray, List.getElem?_cons_zero, List.getElem?_cons_succ] at k0 k1' k2'; clear hs hg)))
  obtain ⟨hW, hG⟩ := three_put (u := .int .u32 a) (v := .int .u32 b) (s := .bool c) HW2.out
  have q0 := hW.cell 0
  have q1 := hW.cell 1
  have q2 := hW.cell 2
  simp only [List.getElem?_toArray, List.getElem?_cons_zero, List.getElem?_cons_succ] at q0 q1 q2
  have hall := gb_trans (gb_trans (gb_alloc (gb_refl w _) _) HG.out) HG2.out
  refine bodyPost_ret (v := .agg #[.int .u32 a, .int .u32 b, .bool c]) (by simp [results, Tryd.results80, go_sem, q0, q1, q2]) rfl ⟨rfl, ?_, ?_⟩
  · exact HS2.out.grown hG (by simp only [ne_eq, Option.some.injEq]; omega) (fun g e => by injection e with e; omega)
  · exact gb_put (p := ⟨w.heap.size, 2, none⟩) (gb_put (p := ⟨w.heap.size, 1, none⟩) (gb_put (p := ⟨w.heap.size, 0, none⟩) hall (.inr (Nat.le_refl _)) _) (.inr (Nat.le_refl _)) _) (.inr (Nat.le_refl _)) _
/-- What is held while an import is read: x so far. -/
structure GIn (w : World) (p : Nat) (l : List UInt8) (k : Nat) (x : Im) (W : World) : Prop where
  hp : p < w.heap.size
  sc : Sc W p l k
  tb : TbN p W
  g : w.grownBy W (some p)
  b0 : Whole W w.heap.size 49 (imC imZ)
  b1 : Whole W (w.heap.size + 1) 49 (imC x)
section
variable {w W W' : World} {p : Nat} {l : List UInt8} {k k' : Nat} {x y : Im}
theorem GIn.step (h : GIn w p l k x W) (hs : Sc W' p l k') (hg : W.grownBy W' (some p)) : GIn w p l k' x W' := by
  have hp := h.hp
  exact ⟨hp, hs, h.tb.keep hg (Nat.le_refl _), gb_trans h.g hg, h.b0.grown hg (by simp only [ne_eq, Option.some.injEq]; omega), h.b1.grown hg (by simp only [ne_eq, Option.some.injEq]; omega)⟩
theorem GIn.wrote (h : GIn w p l k x W) (hg : W.grownBy W' (some (w.heap.size + 1))) (hb : Whole W' (w.heap.size + 1) 49 (imC y)) : GIn w p l k y W' := by
  have hp := h.hp
  exact ⟨hp, h.sc.grown hg (by simp only [ne_eq, Option.some.injEq]; omega) (fun g e => by injection e with e; omega), by
    obtain ⟨⟨h1, h2⟩, h3, h4, h5⟩ := h.tb
    have key : ∀ b o, b < p → W'.cell? ⟨b, o, none⟩ = W.cell? ⟨b, o, none⟩ := fun b o hb => by
      unfold World.cell?
      rw [hg.block b (by omega) (by simp only [ne_eq, Option.some.injEq]; omega)]
    exact ⟨⟨fun c hc => (key _ _ h3).trans (h1 c hc), fun i hi => ⟨(key _ _ h4).trans (h2 i hi).1, (key _ _ h4).trans (h2 i hi).2⟩⟩, h3, h4, Nat.le_trans h5 hg.size⟩,
    gb_before h.g hg (fun g e => .inr (by injection e with e; omega)), h.b0.grown hg (by simp only [ne_eq, Option.some.injEq]; omega), hb⟩
abbrev zC : Array Value := #[.string { data := #[] }, .string { data := #[] }, .int .u8 0, .int .u32 0, .int .u32 0, .int .u32 0, .bool false, .int .u8 0, .bool false]
theorem imC_zero : imC imZ = zC := rfl
theorem GIn.start (h : Sc w p l k) (hT : TbN p w) : GIn w p l k imZ ((w.alloc (.cells zC 49)).alloc (.cells zC 49)) := by
  rw [← imC_zero]
  have h2 := Whole.made (w.alloc (.cells (imC imZ) 49)) 49 (imC imZ)
  rw [size_box] at h2
  exact ⟨h.lt, (h.alloc _).alloc _, (hT.below (below_box _ _)).below (below_box _ _), gb_alloc (gb_alloc (gb_refl _ _) _) _, (Whole.made w _ _).alloc _, h2⟩
theorem gb_put1 (w : World) (b i : Nat) (u : Value) : w.grownBy (w.setCell ⟨b, i, none⟩ u) (some b) := gb_put (p := ⟨b, i, none⟩) (gb_refl w _) (.inl rfl) u
end
/-- Get of an import of this kind. -/
def Gots (p : Nat) (l : List UInt8) (k' : Nat) (x : Im) (w : World) (e : Ending) (w' : World) : Prop := e = .returned (imV x) ∧ Sc w' p l k' ∧ w.grownBy w' (some p)
/-- The end of Get: the result is copied. -/
theorem got_end {w W : World} {p : Nat} {l : List UInt8} {k : Nat} {x : Im} (h : GIn w p l k x W) {W' : World} (hW : W' = (((((((((W.setCell ⟨w.heap.size, 0, none⟩ (.string (S x.mod))).setCell ⟨w.heap.size, 1, none⟩ (.string (S x.nam))).setCell ⟨w.heap.size, 2, none⟩ (.int .u8 x.kind.toNat)).setCell ⟨w.heap.size, 3, none⟩ (.int .u32 x.typ.toNat)).setCell ⟨w.heap.size, 4, none⟩ (.int .u32 x.mn.toNat)).setCell ⟨w.heap.size, 5, none⟩ (.int .u32 x.mx.toNat)).setCell ⟨w.heap.size, 6, none⟩ (.bool x.bd)).setCell ⟨w.heap.size, 7, none⟩ (.int .u8 x.gt.toNat)).setCell ⟨w.heap.size, 8, none⟩ (.bool x.gm))) :
    Whole W' w.heap.size 49 (imC x) ∧ Sc W' p l k ∧ w.grownBy W' (some p) := by
  subst hW
  obtain ⟨h1, h2⟩ := put9 (u0 := .string (S x.mod)) (u1 := .string (S x.nam)) (u2 := .int .u8 x.kind.toNat) (u3 := .int .u32 x.typ.toNat) (u4 := .int .u32 x.mn.toNat) (u5 := .int .u32 x.mx.toNat) (u6 := .bool x.bd) (u7 := .int .u8 x.gt.toNat) (u8 := .bool x.gm) h.b0
  have hp := h.hp
  exact ⟨h1, h.sc.grown h2 (by simp only [ne_eq, Option.some.injEq]; omega) (fun g e => by injection e with e; omega), gb_before h.g h2 (fun g e => .inr (by injection e with e; omega))⟩
set_option maxHeartbeats 4000000 in
theorem get_0 {w : World} {p : Nat} {l : List UInt8} {k k1 k2 k3 k4 : Nat} {x : Im} (h : Sc w p l k) (hT : TbN p w) (h1 : nameR l k = .ok x.mod k1) (h2 : nameR l k1 = .ok x.nam k2) (h3 : byteR l k2 = .ok x.kind k3)
    (hk : x.kind.toNat = 0) (hv : indexR l k3 = .ok (x.typ.toNat : Int) k4) (hx : x = ⟨x.mod, x.nam, x.kind, x.typ, 0, 0, false, 0, false⟩) : Calls Tryd.prog 25 #[.pointer (some ⟨p, 0, none⟩)] w (Gots p l k4 x w) := by
  have H0 := Lib.hid (GIn.start h hT)
  have hN := name_scan H0.out.sc H0.out.tb
  rw [h1] at hN
  have HN1 := Lib.hid hN
  have HN2 := Lib.hid (fun W (hs : Sc W p l k1) (hb : TbN p W) => by have := name_scan hs hb; rw [h2] at this; exact this)
  have HK := Lib.hid (fun W (hs : Sc W p l k2) => nk_ok hs h3 (by omega))
  have HV := Lib.hid (fun W (hs : Sc W p l k3) => by have := index_scan hs; rw [hv] at this; exact this)
  have d0 : ((x.kind.toNat : Int) == 0) = true := be_of (by simp; omega)
  have HX := Lib.hid hx
  obtain ⟨c0, c1, c2, c3, c4, c5, c6, c7, c8⟩ := H0.out.b1.im
  clear h hT hN h1 h2 h3 hk hv hx c0 c1 c2 c3 c4 c5 c6 c7 c8
  go_enter Tryd.func25, Tryd.ntmps25
  go_upto_region 5 with (first
    | (have tok := H3; go_at_call 78; go_must ((with_reducible refine (HK.out _ H3.out.sc).mono ?_); rintro e w5 ⟨rfl, hs, hg⟩; clear c0 f0 c1 f1 c2 f2 c3 f3 c4 f4 c5 f5 c6 f6 c7 f7 c8 f8; have H4 := Lib.hid (H3.out.step hs hg); clear hs hg; obtain ⟨c0, c1, c2, c3, c4, c5, c6, c7, c8⟩ := H4.out.b1.im; have f0 := H4.out.b1.frozen 0; have f1 := H4.out.b1.frozen 1; have f2 := H4.out.b1.frozen 2; have f3 := H4.out.b1.frozen 3; have f4 := H4.out.b1.frozen 4; have f5 := H4.out.b1.frozen 5; have f6 := H4.out.b1.frozen 6; have f7 := H4.out.b1.frozen 7; have f8 := H4.out.b1.frozen 8; have H5 := Lib.hid (H4.out.wrote (y := ⟨x.mod, x.nam, x.kind, 0, 0, 0, false, 0, false⟩) (gb_put1 w5 (w.heap.size + 1) 2 (.int .u8 x.kind.toNat)) (H4.out.b1.put 2 (.int .u8 x.kind.toNat)))))
    | (have tok := H2; go_at_call 77; go_must ((with_reducible refine (HN2.out _ H2.out.sc H2.out.tb).mono ?_); rintro e w3 ⟨rfl, hs, hg⟩; clear c0 f0 c1 f1 c2 f2 c3 f3 c4 f4 c5 f5 c6 f6 c7 f7 c8 f8; have H2b := Lib.hid (H2.out.step hs hg); clear hs hg; obtain ⟨c0, c1, c2, c3, c4, c5, c6, c7, c8⟩ := H2b.out.b1.im; have f0 := H2b.out.b1.frozen 0; have f1 := H2b.out.b1.frozen 1; have f2 := H2b.out.b1.frozen 2; have f3 := H2b.out.b1.frozen 3; have f4 := H2b.out.b1.frozen 4; have f5 := H2b.out.b1.frozen 5; have f6 := H2b.out.b1.frozen 6; have f7 := H2b.out.b1.frozen 7; have f8 := H2b.out.b1.frozen 8; have H3 := Lib.hid (H2b.out.wrote (y := ⟨x.mod, x.nam, 0, 0, 0, 0, false, 0, false⟩) (gb_put1 w3 (w.heap.size + 1) 1 (.string (S x.nam))) (H2b.out.b1.put 1 (.string (S x.nam))))))
    | (go_at_call 77; go_must ((with_reducible refine HN1.out.mono ?_); rintro e w1 ⟨rfl, hs, hg⟩; have H1 := Lib.hid (H0.out.step hs hg); clear hs hg; obtain ⟨c0, c1, c2, c3, c4, c5, c6, c7, c8⟩ := H1.out.b1.im; have f0 := H1.out.b1.frozen 0; have f1 := H1.out.b1.frozen 1; have f2 := H1.out.b1.frozen 2; have f3 := H1.out.b1.frozen 3; have f4 := H1.out.b1.frozen 4; have f5 := H1.out.b1.frozen 5; have f6 := H1.out.b1.frozen 6; have f7 := H1.out.b1.frozen 7; have f8 := H1.out.b1.frozen 8; have H2 := Lib.hid (H1.out.wrote (y := ⟨x.mod, [], 0, 0, 0, 0, false, 0, false⟩) (gb_put1 w1 (w.heap.size + 1) 0 (.string (S x.mod))) (H1.out.b1.put 0 (.string (S x.mod)))))))
  clear c0 f0 c1 f1 c2 f2 c3 f3 c4 f4 c5 f5 c6 f6 c7 f7 c8 f8
  generalize w5.setCell ⟨w.heap.size + 1, 2, none⟩ (.int .u8 x.kind.toNat) = W5 at *
  obtain ⟨c0, c1, c2, c3, c4, c5, c6, c7, c8⟩ := H5.out.b1.im
  have f0 := H5.out.b1.frozen 0
  have f1 := H5.out.b1.frozen 1
  have f2 := H5.out.b1.frozen 2
  have f3 := H5.out.b1.frozen 3
  have f4 := H5.out.b1.frozen 4
  have f5 := H5.out.b1.frozen 5
  have f6 := H5.out.b1.frozen 6
  have f7 := H5.out.b1.frozen 7
  have f8 := H5.out.b1.frozen 8
  go_upto_region 14 with (go_at_call 79; go_must ((with_reducible refine (HV.out _ H5.out.sc).mono ?_); rintro e w6 ⟨rfl, hs, hg⟩; clear c0 f0 c1 f1 c2 f2 c3 f3 c4 f4 c5 f5 c6 f6 c7 f7 c8 f8; have H6 := Lib.hid (H5.out.step hs hg); clear hs hg; obtain ⟨c0, c1, c2, c3, c4, c5, c6, c7, c8⟩ := H6.out.b1.im; have f0 := H6.out.b1.frozen 0; have f1 := H6.out.b1.frozen 1; have f2 := H6.out.b1.frozen 2; have f3 := H6.out.b1.frozen 3; have f4 := H6.out.b1.frozen 4; have f5 := H6.out.b1.frozen 5; have f6 := H6.out.b1.frozen 6; have f7 := H6.out.b1.frozen 7; have f8 := H6.out.b1.frozen 8; have H7 := Lib.hid (H6.out.wrote (y := ⟨x.mod, x.nam, x.kind, x.typ, 0, 0, false, 0, false⟩) (gb_put (p := ⟨w.heap.size + 1, 3, none⟩) (gb_refl w6 _) (.inl rfl) (.int .u32 x.typ.toNat)) (H6.out.b1.put 3 (.int .u32 x.typ.toNat)))))
  clear c0 f0 c1 f1 c2 f2 c3 f3 c4 f4 c5 f5 c6 f6 c7 f7 c8 f8
  generalize (w6.setCell ⟨w.heap.size + 1, 3, none⟩ (.int .u32 x.typ.toNat)) = W7 at *
  rw [← HX.out] at H7
  obtain ⟨c0, c1, c2, c3, c4, c5, c6, c7, c8⟩ := H7.out.b1.im
  have f0 := H7.out.b1.frozen 0
  have f1 := H7.out.b1.frozen 1
  have f2 := H7.out.b1.frozen 2
  have f3 := H7.out.b1.frozen 3
  have f4 := H7.out.b1.frozen 4
  have f5 := H7.out.b1.frozen 5
  have f6 := H7.out.b1.frozen 6
  have f7 := H7.out.b1.frozen 7
  have f8 := H7.out.b1.frozen 8
  obtain ⟨z0, z1, z2, z3, z4, z5, z6, z7, z8⟩ := H7.out.b0.im
  have y0 := H7.out.b0.frozen 0
  have y1 := H7.out.b0.frozen 1
  have y2 := H7.out.b0.frozen 2
  have y3 := H7.out.b0.frozen 3
  have y4 := H7.out.b0.frozen 4
  have y5 := H7.out.b0.frozen 5
  have y6 := H7.out.b0.frozen 6
  have y7 := H7.out.b0.frozen 7
  have y8 := H7.out.b0.frozen 8
  go_wp2
  obtain ⟨hW, hS, hG⟩ := got_end H7.out rfl
  obtain ⟨q0, q1, q2, q3, q4, q5, q6, q7, q8⟩ := hW.im
  exact bodyPost_ret (v := imV x) (by simp [results, Tryd.results25, go_sem, q0, q1, q2, q3, q4, q5, q6, q7, q8]) rfl ⟨rfl, hS, hG⟩
set_option maxHeartbeats 4000000 in
theorem get_1 {w : World} {p : Nat} {l : List UInt8} {k k1 k2 k3 k4 : Nat} {x : Im} (h : Sc w p l k) (hT : TbN p w) (h1 : nameR l k = .ok x.mod k1) (h2 : nameR l k1 = .ok x.nam k2) (h3 : byteR l k2 = .ok x.kind k3)
    (hk : x.kind.toNat = 1) {kt : Nat} (ht : tagR l k3 112 = .ok () kt) (hv : limR l kt = .ok ((x.mn.toNat : Int), (x.mx.toNat : Int), x.bd) k4) (hx : x = ⟨x.mod, x.nam, x.kind, 0, x.mn, x.mx, x.bd, 0, false⟩) : Calls Tryd.prog 25 #[.pointer (some ⟨p, 0, none⟩)] w (Gots p l k4 x w) := by
  have H0 := Lib.hid (GIn.start h hT)
  have hN := name_scan H0.out.sc H0.out.tb
  rw [h1] at hN
  have HN1 := Lib.hid hN
  have HN2 := Lib.hid (fun W (hs : Sc W p l k1) (hb : TbN p W) => by have := name_scan hs hb; rw [h2] at this; exact this)
  have HK := Lib.hid (fun W (hs : Sc W p l k2) => nk_ok hs h3 (by omega))
  have HV := Lib.hid (fun W (hs : Sc W p l k3) => table_ok hs ht hv)
  have d0 : ((x.kind.toNat : Int) == 0) = false := be_of (by simp; omega)
  have d1 : ((x.kind.toNat : Int) == 1) = true := be_of (by simp; omega)
  have HX := Lib.hid hx
  obtain ⟨c0, c1, c2, c3, c4, c5, c6, c7, c8⟩ := H0.out.b1.im
  clear h hT hN h1 h2 h3 hk hv ht hx c0 c1 c2 c3 c4 c5 c6 c7 c8
  go_enter Tryd.func25, Tryd.ntmps25
  go_upto_region 5 with (first
    | (have tok := H3; go_at_call 78; go_must ((with_reducible refine (HK.out _ H3.out.sc).mono ?_); rintro e w5 ⟨rfl, hs, hg⟩; clear c0 f0 c1 f1 c2 f2 c3 f3 c4 f4 c5 f5 c6 f6 c7 f7 c8 f8; have H4 := Lib.hid (H3.out.step hs hg); clear hs hg; obtain ⟨c0, c1, c2, c3, c4, c5, c6, c7, c8⟩ := H4.out.b1.im; have f0 := H4.out.b1.frozen 0; have f1 := H4.out.b1.frozen 1; have f2 := H4.out.b1.frozen 2; have f3 := H4.out.b1.frozen 3; have f4 := H4.out.b1.frozen 4; have f5 := H4.out.b1.frozen 5; have f6 := H4.out.b1.frozen 6; have f7 := H4.out.b1.frozen 7; have f8 := H4.out.b1.frozen 8; have H5 := Lib.hid (H4.out.wrote (y := ⟨x.mod, x.nam, x.kind, 0, 0, 0, false, 0, false⟩) (gb_put1 w5 (w.heap.size + 1) 2 (.int .u8 x.kind.toNat)) (H4.out.b1.put 2 (.int .u8 x.kind.toNat)))))
    | (have tok := H2; go_at_call 77; go_must ((with_reducible refine (HN2.out _ H2.out.sc H2.out.tb).mono ?_); rintro e w3 ⟨rfl, hs, hg⟩; clear c0 f0 c1 f1 c2 f2 c3 f3 c4 f4 c5 f5 c6 f6 c7 f7 c8 f8; have H2b := Lib.hid (H2.out.step hs hg); clear hs hg; obtain ⟨c0, c1, c2, c3, c4, c5, c6, c7, c8⟩ := H2b.out.b1.im; have f0 := H2b.out.b1.frozen 0; have f1 := H2b.out.b1.frozen 1; have f2 := H2b.out.b1.frozen 2; have f3 := H2b.out.b1.frozen 3; have f4 := H2b.out.b1.frozen 4; have f5 := H2b.out.b1.frozen 5; have f6 := H2b.out.b1.frozen 6; have f7 := H2b.out.b1.frozen 7; have f8 := H2b.out.b1.frozen 8; have H3 := Lib.hid (H2b.out.wrote (y := ⟨x.mod, x.nam, 0, 0, 0, 0, false, 0, false⟩) (gb_put1 w3 (w.heap.size + 1) 1 (.string (S x.nam))) (H2b.out.b1.put 1 (.string (S x.nam))))))
    | (go_at_call 77; go_must ((with_reducible refine HN1.out.mono ?_); rintro e w1 ⟨rfl, hs, hg⟩; have H1 := Lib.hid (H0.out.step hs hg); clear hs hg; obtain ⟨c0, c1, c2, c3, c4, c5, c6, c7, c8⟩ := H1.out.b1.im; have f0 := H1.out.b1.frozen 0; have f1 := H1.out.b1.frozen 1; have f2 := H1.out.b1.frozen 2; have f3 := H1.out.b1.frozen 3; have f4 := H1.out.b1.frozen 4; have f5 := H1.out.b1.frozen 5; have f6 := H1.out.b1.frozen 6; have f7 := H1.out.b1.frozen 7; have f8 := H1.out.b1.frozen 8; have H2 := Lib.hid (H1.out.wrote (y := ⟨x.mod, [], 0, 0, 0, 0, false, 0, false⟩) (gb_put1 w1 (w.heap.size + 1) 0 (.string (S x.mod))) (H1.out.b1.put 0 (.string (S x.mod)))))))
  clear c0 f0 c1 f1 c2 f2 c3 f3 c4 f4 c5 f5 c6 f6 c7 f7 c8 f8
  generalize w5.setCell ⟨w.heap.size + 1, 2, none⟩ (.int .u8 x.kind.toNat) = W5 at *
  obtain ⟨c0, c1, c2, c3, c4, c5, c6, c7, c8⟩ := H5.out.b1.im
  have f0 := H5.out.b1.frozen 0
  have f1 := H5.out.b1.frozen 1
  have f2 := H5.out.b1.frozen 2
  have f3 := H5.out.b1.frozen 3
  have f4 := H5.out.b1.frozen 4
  have f5 := H5.out.b1.frozen 5
  have f6 := H5.out.b1.frozen 6
  have f7 := H5.out.b1.frozen 7
  have f8 := H5.out.b1.frozen 8
  go_upto_region 14 with (go_at_call 80; go_must ((with_reducible refine (HV.out _ H5.out.sc).mono ?_); rintro e w6 ⟨rfl, hs, hg⟩; clear c0 f0 c1 f1 c2 f2 c3 f3 c4 f4 c5 f5 c6 f6 c7 f7 c8 f8; have H6 := Lib.hid (H5.out.step hs hg); clear hs hg; obtain ⟨c0, c1, c2, c3, c4, c5, c6, c7, c8⟩ := H6.out.b1.im; have f0 := H6.out.b1.frozen 0; have f1 := H6.out.b1.frozen 1; have f2 := H6.out.b1.frozen 2; have f3 := H6.out.b1.frozen 3; have f4 := H6.out.b1.frozen 4; have f5 := H6.out.b1.frozen 5; have f6 := H6.out.b1.frozen 6; have f7 := H6.out.b1.frozen 7; have f8 := H6.out.b1.frozen 8; have H7 := Lib.hid (H6.out.wrote (y := ⟨x.mod, x.nam, x.kind, 0, x.mn, x.mx, x.bd, 0, false⟩) (gb_put (p := ⟨w.heap.size + 1, 6, none⟩) (gb_put (p := ⟨w.heap.size + 1, 5, none⟩) (gb_put (p := ⟨w.heap.size + 1, 4, none⟩) (gb_refl w6 _) (.inl rfl) (.int .u32 x.mn.toNat)) (.inl rfl) (.int .u32 x.mx.toNat)) (.inl rfl) (.bool x.bd)) (((H6.out.b1.put 4 (.int .u32 x.mn.toNat)).put 5 (.int .u32 x.mx.toNat)).put 6 (.bool x.bd)))))
  clear c0 f0 c1 f1 c2 f2 c3 f3 c4 f4 c5 f5 c6 f6 c7 f7 c8 f8
  generalize (((w6.setCell ⟨w.heap.size + 1, 4, none⟩ (.int .u32 x.mn.toNat)).setCell ⟨w.heap.size + 1, 5, none⟩ (.int .u32 x.mx.toNat)).setCell ⟨w.heap.size + 1, 6, none⟩ (.bool x.bd)) = W7 at *
  rw [← HX.out] at H7
  obtain ⟨c0, c1, c2, c3, c4, c5, c6, c7, c8⟩ := H7.out.b1.im
  have f0 := H7.out.b1.frozen 0
  have f1 := H7.out.b1.frozen 1
  have f2 := H7.out.b1.frozen 2
  have f3 := H7.out.b1.frozen 3
  have f4 := H7.out.b1.frozen 4
  have f5 := H7.out.b1.frozen 5
  have f6 := H7.out.b1.frozen 6
  have f7 := H7.out.b1.frozen 7
  have f8 := H7.out.b1.frozen 8
  obtain ⟨z0, z1, z2, z3, z4, z5, z6, z7, z8⟩ := H7.out.b0.im
  have y0 := H7.out.b0.frozen 0
  have y1 := H7.out.b0.frozen 1
  have y2 := H7.out.b0.frozen 2
  have y3 := H7.out.b0.frozen 3
  have y4 := H7.out.b0.frozen 4
  have y5 := H7.out.b0.frozen 5
  have y6 := H7.out.b0.frozen 6
  have y7 := H7.out.b0.frozen 7
  have y8 := H7.out.b0.frozen 8
  go_wp2
  obtain ⟨hW, hS, hG⟩ := got_end H7.out rfl
  obtain ⟨q0, q1, q2, q3, q4, q5, q6, q7, q8⟩ := hW.im
  exact bodyPost_ret (v := imV x) (by simp [results, Tryd.results25, go_sem, q0, q1, q2, q3, q4, q5, q6, q7, q8]) rfl ⟨rfl, hS, hG⟩
set_option maxHeartbeats 4000000 in
theorem get_2 {w : World} {p : Nat} {l : List UInt8} {k k1 k2 k3 k4 : Nat} {x : Im} (h : Sc w p l k) (hT : TbN p w) (h1 : nameR l k = .ok x.mod k1) (h2 : nameR l k1 = .ok x.nam k2) (h3 : byteR l k2 = .ok x.kind k3)
    (hk : x.kind.toNat = 2) (hv : limR l k3 = .ok ((x.mn.toNat : Int), (x.mx.toNat : Int), x.bd) k4) (hx : x = ⟨x.mod, x.nam, x.kind, 0, x.mn, x.mx, x.bd, 0, false⟩) : Calls Tryd.prog 25 #[.pointer (some ⟨p, 0, none⟩)] w (Gots p l k4 x w) := by
  have H0 := Lib.hid (GIn.start h hT)
  have hN := name_scan H0.out.sc H0.out.tb
  rw [h1] at hN
  have HN1 := Lib.hid hN
  have HN2 := Lib.hid (fun W (hs : Sc W p l k1) (hb : TbN p W) => by have := name_scan hs hb; rw [h2] at this; exact this)
  have HK := Lib.hid (fun W (hs : Sc W p l k2) => nk_ok hs h3 (by omega))
  have HV := Lib.hid (fun W (hs : Sc W p l k3) => by have := limits_scan hs; rw [hv] at this; exact this)
  have d0 : ((x.kind.toNat : Int) == 0) = false := be_of (by simp; omega)
  have d1 : ((x.kind.toNat : Int) == 1) = false := be_of (by simp; omega)
  have d2 : ((x.kind.toNat : Int) == 2) = true := be_of (by simp; omega)
  have HX := Lib.hid hx
  obtain ⟨c0, c1, c2, c3, c4, c5, c6, c7, c8⟩ := H0.out.b1.im
  clear h hT hN h1 h2 h3 hk hv hx c0 c1 c2 c3 c4 c5 c6 c7 c8
  go_enter Tryd.func25, Tryd.ntmps25
  go_upto_region 5 with (first
    | (have tok := H3; go_at_call 78; go_must ((with_reducible refine (HK.out _ H3.out.sc).mono ?_); rintro e w5 ⟨rfl, hs, hg⟩; clear c0 f0 c1 f1 c2 f2 c3 f3 c4 f4 c5 f5 c6 f6 c7 f7 c8 f8; have H4 := Lib.hid (H3.out.step hs hg); clear hs hg; obtain ⟨c0, c1, c2, c3, c4, c5, c6, c7, c8⟩ := H4.out.b1.im; have f0 := H4.out.b1.frozen 0; have f1 := H4.out.b1.frozen 1; have f2 := H4.out.b1.frozen 2; have f3 := H4.out.b1.frozen 3; have f4 := H4.out.b1.frozen 4; have f5 := H4.out.b1.frozen 5; have f6 := H4.out.b1.frozen 6; have f7 := H4.out.b1.frozen 7; have f8 := H4.out.b1.frozen 8; have H5 := Lib.hid (H4.out.wrote (y := ⟨x.mod, x.nam, x.kind, 0, 0, 0, false, 0, false⟩) (gb_put1 w5 (w.heap.size + 1) 2 (.int .u8 x.kind.toNat)) (H4.out.b1.put 2 (.int .u8 x.kind.toNat)))))
    | (have tok := H2; go_at_call 77; go_must ((with_reducible refine (HN2.out _ H2.out.sc H2.out.tb).mono ?_); rintro e w3 ⟨rfl, hs, hg⟩; clear c0 f0 c1 f1 c2 f2 c3 f3 c4 f4 c5 f5 c6 f6 c7 f7 c8 f8; have H2b := Lib.hid (H2.out.step hs hg); clear hs hg; obtain ⟨c0, c1, c2, c3, c4, c5, c6, c7, c8⟩ := H2b.out.b1.im; have f0 := H2b.out.b1.frozen 0; have f1 := H2b.out.b1.frozen 1; have f2 := H2b.out.b1.frozen 2; have f3 := H2b.out.b1.frozen 3; have f4 := H2b.out.b1.frozen 4; have f5 := H2b.out.b1.frozen 5; have f6 := H2b.out.b1.frozen 6; have f7 := H2b.out.b1.frozen 7; have f8 := H2b.out.b1.frozen 8; have H3 := Lib.hid (H2b.out.wrote (y := ⟨x.mod, x.nam, 0, 0, 0, 0, false, 0, false⟩) (gb_put1 w3 (w.heap.size + 1) 1 (.string (S x.nam))) (H2b.out.b1.put 1 (.string (S x.nam))))))
    | (go_at_call 77; go_must ((with_reducible refine HN1.out.mono ?_); rintro e w1 ⟨rfl, hs, hg⟩; have H1 := Lib.hid (H0.out.step hs hg); clear hs hg; obtain ⟨c0, c1, c2, c3, c4, c5, c6, c7, c8⟩ := H1.out.b1.im; have f0 := H1.out.b1.frozen 0; have f1 := H1.out.b1.frozen 1; have f2 := H1.out.b1.frozen 2; have f3 := H1.out.b1.frozen 3; have f4 := H1.out.b1.frozen 4; have f5 := H1.out.b1.frozen 5; have f6 := H1.out.b1.frozen 6; have f7 := H1.out.b1.frozen 7; have f8 := H1.out.b1.frozen 8; have H2 := Lib.hid (H1.out.wrote (y := ⟨x.mod, [], 0, 0, 0, 0, false, 0, false⟩) (gb_put1 w1 (w.heap.size + 1) 0 (.string (S x.mod))) (H1.out.b1.put 0 (.string (S x.mod)))))))
  clear c0 f0 c1 f1 c2 f2 c3 f3 c4 f4 c5 f5 c6 f6 c7 f7 c8 f8
  generalize w5.setCell ⟨w.heap.size + 1, 2, none⟩ (.int .u8 x.kind.toNat) = W5 at *
  obtain ⟨c0, c1, c2, c3, c4, c5, c6, c7, c8⟩ := H5.out.b1.im
  have f0 := H5.out.b1.frozen 0
  have f1 := H5.out.b1.frozen 1
  have f2 := H5.out.b1.frozen 2
  have f3 := H5.out.b1.frozen 3
  have f4 := H5.out.b1.frozen 4
  have f5 := H5.out.b1.frozen 5
  have f6 := H5.out.b1.frozen 6
  have f7 := H5.out.b1.frozen 7
  have f8 := H5.out.b1.frozen 8
  go_upto_region 14 with (go_at_call 81; go_must ((with_reducible refine (HV.out _ H5.out.sc).mono ?_); rintro e w6 ⟨rfl, hs, hg⟩; clear c0 f0 c1 f1 c2 f2 c3 f3 c4 f4 c5 f5 c6 f6 c7 f7 c8 f8; have H6 := Lib.hid (H5.out.step hs hg); clear hs hg; obtain ⟨c0, c1, c2, c3, c4, c5, c6, c7, c8⟩ := H6.out.b1.im; have f0 := H6.out.b1.frozen 0; have f1 := H6.out.b1.frozen 1; have f2 := H6.out.b1.frozen 2; have f3 := H6.out.b1.frozen 3; have f4 := H6.out.b1.frozen 4; have f5 := H6.out.b1.frozen 5; have f6 := H6.out.b1.frozen 6; have f7 := H6.out.b1.frozen 7; have f8 := H6.out.b1.frozen 8; have H7 := Lib.hid (H6.out.wrote (y := ⟨x.mod, x.nam, x.kind, 0, x.mn, x.mx, x.bd, 0, false⟩) (gb_put (p := ⟨w.heap.size + 1, 6, none⟩) (gb_put (p := ⟨w.heap.size + 1, 5, none⟩) (gb_put (p := ⟨w.heap.size + 1, 4, none⟩) (gb_refl w6 _) (.inl rfl) (.int .u32 x.mn.toNat)) (.inl rfl) (.int .u32 x.mx.toNat)) (.inl rfl) (.bool x.bd)) (((H6.out.b1.put 4 (.int .u32 x.mn.toNat)).put 5 (.int .u32 x.mx.toNat)).put 6 (.bool x.bd)))))
  clear c0 f0 c1 f1 c2 f2 c3 f3 c4 f4 c5 f5 c6 f6 c7 f7 c8 f8
  generalize (((w6.setCell ⟨w.heap.size + 1, 4, none⟩ (.int .u32 x.mn.toNat)).setCell ⟨w.heap.size + 1, 5, none⟩ (.int .u32 x.mx.toNat)).setCell ⟨w.heap.size + 1, 6, none⟩ (.bool x.bd)) = W7 at *
  rw [← HX.out] at H7
  obtain ⟨c0, c1, c2, c3, c4, c5, c6, c7, c8⟩ := H7.out.b1.im
  have f0 := H7.out.b1.frozen 0
  have f1 := H7.out.b1.frozen 1
  have f2 := H7.out.b1.frozen 2
  have f3 := H7.out.b1.frozen 3
  have f4 := H7.out.b1.frozen 4
  have f5 := H7.out.b1.frozen 5
  have f6 := H7.out.b1.frozen 6
  have f7 := H7.out.b1.frozen 7
  have f8 := H7.out.b1.frozen 8
  obtain ⟨z0, z1, z2, z3, z4, z5, z6, z7, z8⟩ := H7.out.b0.im
  have y0 := H7.out.b0.frozen 0
  have y1 := H7.out.b0.frozen 1
  have y2 := H7.out.b0.frozen 2
  have y3 := H7.out.b0.frozen 3
  have y4 := H7.out.b0.frozen 4
  have y5 := H7.out.b0.frozen 5
  have y6 := H7.out.b0.frozen 6
  have y7 := H7.out.b0.frozen 7
  have y8 := H7.out.b0.frozen 8
  go_wp2
  obtain ⟨hW, hS, hG⟩ := got_end H7.out rfl
  obtain ⟨q0, q1, q2, q3, q4, q5, q6, q7, q8⟩ := hW.im
  exact bodyPost_ret (v := imV x) (by simp [results, Tryd.results25, go_sem, q0, q1, q2, q3, q4, q5, q6, q7, q8]) rfl ⟨rfl, hS, hG⟩
set_option maxHeartbeats 4000000 in
theorem get_3 {w : World} {p : Nat} {l : List UInt8} {k k1 k2 k3 k4 : Nat} {x : Im} (h : Sc w p l k) (hT : TbN p w) (h1 : nameR l k = .ok x.mod k1) (h2 : nameR l k1 = .ok x.nam k2) (h3 : byteR l k2 = .ok x.kind k3)
    (hk : x.kind.toNat = 3) (hv : globR l k3 = .ok (x.gt, x.gm) k4) (hx : x = ⟨x.mod, x.nam, x.kind, 0, 0, 0, false, x.gt, x.gm⟩) : Calls Tryd.prog 25 #[.pointer (some ⟨p, 0, none⟩)] w (Gots p l k4 x w) := by
  have H0 := Lib.hid (GIn.start h hT)
  have hN := name_scan H0.out.sc H0.out.tb
  rw [h1] at hN
  have HN1 := Lib.hid hN
  have HN2 := Lib.hid (fun W (hs : Sc W p l k1) (hb : TbN p W) => by have := name_scan hs hb; rw [h2] at this; exact this)
  have HK := Lib.hid (fun W (hs : Sc W p l k2) => nk_ok hs h3 (by omega))
  have HV := Lib.hid (fun W (hs : Sc W p l k3) => by have := global_scan hs; rw [hv] at this; exact this)
  have d0 : ((x.kind.toNat : Int) == 0) = false := be_of (by simp; omega)
  have d1 : ((x.kind.toNat : Int) == 1) = false := be_of (by simp; omega)
  have d2 : ((x.kind.toNat : Int) == 2) = false := be_of (by simp; omega)
  have d3 : ((x.kind.toNat : Int) == 3) = true := be_of (by simp; omega)
  have HX := Lib.hid hx
  obtain ⟨c0, c1, c2, c3, c4, c5, c6, c7, c8⟩ := H0.out.b1.im
  clear h hT hN h1 h2 h3 hk hv hx c0 c1 c2 c3 c4 c5 c6 c7 c8
  go_enter Tryd.func25, Tryd.ntmps25
  go_upto_region 5 with (first
    | (have tok := H3; go_at_call 78; go_must ((with_reducible refine (HK.out _ H3.out.sc).mono ?_); rintro e w5 ⟨rfl, hs, hg⟩; clear c0 f0 c1 f1 c2 f2 c3 f3 c4 f4 c5 f5 c6 f6 c7 f7 c8 f8; have H4 := Lib.hid (H3.out.step hs hg); clear hs hg; obtain ⟨c0, c1, c2, c3, c4, c5, c6, c7, c8⟩ := H4.out.b1.im; have f0 := H4.out.b1.frozen 0; have f1 := H4.out.b1.frozen 1; have f2 := H4.out.b1.frozen 2; have f3 := H4.out.b1.frozen 3; have f4 := H4.out.b1.frozen 4; have f5 := H4.out.b1.frozen 5; have f6 := H4.out.b1.frozen 6; have f7 := H4.out.b1.frozen 7; have f8 := H4.out.b1.frozen 8; have H5 := Lib.hid (H4.out.wrote (y := ⟨x.mod, x.nam, x.kind, 0, 0, 0, false, 0, false⟩) (gb_put1 w5 (w.heap.size + 1) 2 (.int .u8 x.kind.toNat)) (H4.out.b1.put 2 (.int .u8 x.kind.toNat)))))
    | (have tok := H2; go_at_call 77; go_must ((with_reducible refine (HN2.out _ H2.out.sc H2.out.tb).mono ?_); rintro e w3 ⟨rfl, hs, hg⟩; clear c0 f0 c1 f1 c2 f2 c3 f3 c4 f4 c5 f5 c6 f6 c7 f7 c8 f8; have H2b := Lib.hid (H2.out.step hs hg); clear hs hg; obtain ⟨c0, c1, c2, c3, c4, c5, c6, c7, c8⟩ := H2b.out.b1.im; have f0 := H2b.out.b1.frozen 0; have f1 := H2b.out.b1.frozen 1; have f2 := H2b.out.b1.frozen 2; have f3 := H2b.out.b1.frozen 3; have f4 := H2b.out.b1.frozen 4; have f5 := H2b.out.b1.frozen 5; have f6 := H2b.out.b1.frozen 6; have f7 := H2b.out.b1.frozen 7; have f8 := H2b.out.b1.frozen 8; have H3 := Lib.hid (H2b.out.wrote (y := ⟨x.mod, x.nam, 0, 0, 0, 0, false, 0, false⟩) (gb_put1 w3 (w.heap.size + 1) 1 (.string (S x.nam))) (H2b.out.b1.put 1 (.string (S x.nam))))))
    | (go_at_call 77; go_must ((with_reducible refine HN1.out.mono ?_); rintro e w1 ⟨rfl, hs, hg⟩; have H1 := Lib.hid (H0.out.step hs hg); clear hs hg; obtain ⟨c0, c1, c2, c3, c4, c5, c6, c7, c8⟩ := H1.out.b1.im; have f0 := H1.out.b1.frozen 0; have f1 := H1.out.b1.frozen 1; have f2 := H1.out.b1.frozen 2; have f3 := H1.out.b1.frozen 3; have f4 := H1.out.b1.frozen 4; have f5 := H1.out.b1.frozen 5; have f6 := H1.out.b1.frozen 6; have f7 := H1.out.b1.frozen 7; have f8 := H1.out.b1.frozen 8; have H2 := Lib.hid (H1.out.wrote (y := ⟨x.mod, [], 0, 0, 0, 0, false, 0, false⟩) (gb_put1 w1 (w.heap.size + 1) 0 (.string (S x.mod))) (H1.out.b1.put 0 (.string (S x.mod)))))))
  clear c0 f0 c1 f1 c2 f2 c3 f3 c4 f4 c5 f5 c6 f6 c7 f7 c8 f8
  generalize w5.setCell ⟨w.heap.size + 1, 2, none⟩ (.int .u8 x.kind.toNat) = W5 at *
  obtain ⟨c0, c1, c2, c3, c4, c5, c6, c7, c8⟩ := H5.out.b1.im
  have f0 := H5.out.b1.frozen 0
  have f1 := H5.out.b1.frozen 1
  have f2 := H5.out.b1.frozen 2
  have f3 := H5.out.b1.frozen 3
  have f4 := H5.out.b1.frozen 4
  have f5 := H5.out.b1.frozen 5
  have f6 := H5.out.b1.frozen 6
  have f7 := H5.out.b1.frozen 7
  have f8 := H5.out.b1.frozen 8
  go_upto_region 14 with (go_at_call 82; go_must ((with_reducible refine (HV.out _ H5.out.sc).mono ?_); rintro e w6 ⟨rfl, hs, hg⟩; clear c0 f0 c1 f1 c2 f2 c3 f3 c4 f4 c5 f5 c6 f6 c7 f7 c8 f8; have H6 := Lib.hid (H5.out.step hs hg); clear hs hg; obtain ⟨c0, c1, c2, c3, c4, c5, c6, c7, c8⟩ := H6.out.b1.im; have f0 := H6.out.b1.frozen 0; have f1 := H6.out.b1.frozen 1; have f2 := H6.out.b1.frozen 2; have f3 := H6.out.b1.frozen 3; have f4 := H6.out.b1.frozen 4; have f5 := H6.out.b1.frozen 5; have f6 := H6.out.b1.frozen 6; have f7 := H6.out.b1.frozen 7; have f8 := H6.out.b1.frozen 8; have H7 := Lib.hid (H6.out.wrote (y := ⟨x.mod, x.nam, x.kind, 0, 0, 0, false, x.gt, x.gm⟩) (gb_put (p := ⟨w.heap.size + 1, 8, none⟩) (gb_put (p := ⟨w.heap.size + 1, 7, none⟩) (gb_refl w6 _) (.inl rfl) (.int .u8 x.gt.toNat)) (.inl rfl) (.bool x.gm)) ((H6.out.b1.put 7 (.int .u8 x.gt.toNat)).put 8 (.bool x.gm)))))
  clear c0 f0 c1 f1 c2 f2 c3 f3 c4 f4 c5 f5 c6 f6 c7 f7 c8 f8
  generalize ((w6.setCell ⟨w.heap.size + 1, 7, none⟩ (.int .u8 x.gt.toNat)).setCell ⟨w.heap.size + 1, 8, none⟩ (.bool x.gm)) = W7 at *
  rw [← HX.out] at H7
  obtain ⟨c0, c1, c2, c3, c4, c5, c6, c7, c8⟩ := H7.out.b1.im
  have f0 := H7.out.b1.frozen 0
  have f1 := H7.out.b1.frozen 1
  have f2 := H7.out.b1.frozen 2
  have f3 := H7.out.b1.frozen 3
  have f4 := H7.out.b1.frozen 4
  have f5 := H7.out.b1.frozen 5
  have f6 := H7.out.b1.frozen 6
  have f7 := H7.out.b1.frozen 7
  have f8 := H7.out.b1.frozen 8
  obtain ⟨z0, z1, z2, z3, z4, z5, z6, z7, z8⟩ := H7.out.b0.im
  have y0 := H7.out.b0.frozen 0
  have y1 := H7.out.b0.frozen 1
  have y2 := H7.out.b0.frozen 2
  have y3 := H7.out.b0.frozen 3
  have y4 := H7.out.b0.frozen 4
  have y5 := H7.out.b0.frozen 5
  have y6 := H7.out.b0.frozen 6
  have y7 := H7.out.b0.frozen 7
  have y8 := H7.out.b0.frozen 8
  go_wp2
  obtain ⟨hW, hS, hG⟩ := got_end H7.out rfl
  obtain ⟨q0, q1, q2, q3, q4, q5, q6, q7, q8⟩ := hW.im
  exact bodyPost_ret (v := imV x) (by simp [results, Tryd.results25, go_sem, q0, q1, q2, q3, q4, q5, q6, q7, q8]) rfl ⟨rfl, hS, hG⟩
end Go.Proofs.YtanddfkhokcepaaDoor

/- imports.Get of an import's bytes. -/
namespace Go.Proofs.YtanddfkhokcepaaDoor
open Go.RowKit Go.Lib
set_option linter.unusedVariables false
set_option maxRecDepth 100000

theorem rZ_zero {x : Im} (h : rZ x = 0) : checkZ x.mod = 0 ∧ checkZ x.nam = 0 ∧ x.kind.toNat ≤ 3 ∧ x = ofK x ∧ (x.bd = false → x.mx.toNat = 0) ∧ (x.kind.toNat = 3 → valueZ x.gt.toNat = 0) := by
  unfold rZ at h
  by_cases c1 : checkZ x.mod = 0
  · rw [if_neg (by simpa using c1)] at h
    by_cases c2 : checkZ x.nam = 0
    · rw [if_neg (by simpa using c2)] at h
      by_cases c3 : 3 < x.kind.toNat
      · rw [if_pos c3] at h; omega
      · rw [if_neg c3] at h
        by_cases c4 : x ≠ ofK x ∨ (x.bd = false ∧ x.mx.toNat ≠ 0)
        · rw [if_pos c4] at h; omega
        · rw [if_neg c4] at h
          refine ⟨c1, c2, by omega, ?_, fun hb => ?_, fun hk => ?_⟩
          · exact Decidable.byContradiction fun q => c4 (.inl q)
          · exact Decidable.byContradiction fun q => c4 (.inr ⟨hb, q⟩)
          · rw [if_pos hk] at h; exact h
    · rw [if_pos c2] at h; exact absurd h c2
  · rw [if_pos c1] at h; exact absurd h c1
/-- Get, of an import's bytes. -/
theorem get_im {w : World} {p : Nat} {l r : List UInt8} {k : Nat} {x : Im} (h : Sc w p l k) (hT : TbN p w) (hd : l.drop k = iputL x ++ r) (hz : rZ x = 0) :
    Calls Tryd.prog 25 #[.pointer (some ⟨p, 0, none⟩)] w (Gots p l (k + (iputL x).length) x w) := by
  obtain ⟨c1, c2, c3, ho, hb, hg⟩ := rZ_zero hz
  obtain ⟨s1, s2⟩ := checkZ_zero c1
  obtain ⟨t1, t2⟩ := checkZ_zero c2
  have hi : iputL x = nmL x.mod ++ (nmL x.nam ++ (x.kind :: desL x)) := by unfold iputL; simp
  have hd1 : l.drop k = nmL x.mod ++ (nmL x.nam ++ (x.kind :: (desL x ++ r))) := by rw [hd, hi]; simp
  have n1 := nameR_at hd1 s1 s2
  have hd2 := drop_past hd1
  have n2 := nameR_at hd2 t1 t2
  have hd3 := drop_past hd2
  have n3 := byteR_at hd3
  have hd4 : l.drop (k + (nmL x.mod).length + (nmL x.nam).length + 1) = desL x ++ r := by
    have := drop_past (a := [x.kind]) (r := desL x ++ r) (by simpa using hd3)
    simpa using this
  have hlen : k + (iputL x).length = k + (nmL x.mod).length + (nmL x.nam).length + 1 + (desL x).length := by
    rw [hi]; simp only [List.length_append, List.length_cons]; omega
  rw [hlen]
  have u1 := u32_le x.mn
  have u2 := u32_le x.mx
  have u3 := u32_le x.typ
  have hbz : x.bd = false → (x.mx.toNat : Int) = 0 := fun q => by have := hb q; omega
  by_cases k0 : x.kind.toNat = 0
  · have e : desL x = lebL x.typ.toNat := by unfold desL; rw [if_pos k0]
    rw [e] at hd4 ⊢
    exact get_0 h hT n1 n2 n3 k0 (indexR_at hd4 (by omega) u3) (by conv => lhs; rw [ho]; unfold ofK; rw [if_pos k0])
  by_cases k1 : x.kind.toNat = 1
  · have e : desL x = [112] ++ encLim x.mn.toNat x.mx.toNat x.bd := by unfold desL; rw [if_neg k0, if_pos k1]
    rw [e] at hd4 ⊢
    rw [List.length_append, List.length_singleton]
    have hd4' : l.drop (k + (nmL x.mod).length + (nmL x.nam).length + 1) = 112 :: (encLim x.mn.toNat x.mx.toNat x.bd ++ r) := by rw [hd4]; simp
    have ht : tagR l (k + (nmL x.mod).length + (nmL x.nam).length + 1) 112 = .ok () (k + (nmL x.mod).length + (nmL x.nam).length + 1 + 1) := by
      unfold tagR
      rw [byteR_at hd4', Res.bind_ok, if_pos (by rfl)]
    have hd5 : l.drop (k + (nmL x.mod).length + (nmL x.nam).length + 1 + 1) = encLim x.mn.toNat x.mx.toNat x.bd ++ r := by
      have := drop_past (a := [112]) (r := encLim x.mn.toNat x.mx.toNat x.bd ++ r) (by simpa using hd4')
      simpa using this
    have hl := limR_at hd5 (by omega) u1 (by omega) u2 hbz
    rw [← Nat.add_assoc]
    exact get_1 h hT n1 n2 n3 k1 ht hl (by conv => lhs; rw [ho]; unfold ofK; rw [if_neg k0, if_pos (.inl k1)])
  by_cases k2 : x.kind.toNat = 2
  · have e : desL x = encLim x.mn.toNat x.mx.toNat x.bd := by unfold desL; rw [if_neg k0, if_neg k1, if_pos k2]
    rw [e] at hd4 ⊢
    exact get_2 h hT n1 n2 n3 k2 (limR_at hd4 (by omega) u1 (by omega) u2 hbz) (by conv => lhs; rw [ho]; unfold ofK; rw [if_neg k0, if_pos (.inr k2)])
  have k3 : x.kind.toNat = 3 := by omega
  have e : desL x = encG x.gt.toNat x.gm := by unfold desL; rw [if_neg k0, if_neg k1, if_neg k2]
  rw [e] at hd4 ⊢
  exact get_3 h hT n1 n2 n3 k3 (globR_at hd4 (hg k3)) (by conv => lhs; rw [ho]; unfold ofK; rw [if_neg k0, if_neg (by omega), if_pos k3])
end Go.Proofs.YtanddfkhokcepaaDoor

/- imports.PutAll. -/
namespace Go.Proofs.YtanddfkhokcepaaDoor
open Go.RowKit
set_option linter.unusedVariables false
set_option maxRecDepth 100000

/-- The first error. -/
def errL : List Im → Int
  | [] => 0
  | x :: r => if rZ x ≠ 0 then rZ x else errL r
theorem errL_app : ∀ a b : List Im, errL (a ++ b) = if errL a ≠ 0 then errL a else errL b
  | [], b => by simp [errL]
  | x :: a, b => by
    simp only [List.cons_append, errL]
    by_cases h : rZ x = 0
    · simp only [h, ne_eq, not_true_eq_false, if_false, errL_app a b]
    · simp [h]
theorem errL_snoc {l : List Im} {k : Nat} {x : Im} (h : l[k]? = some x) : errL (l.take (k + 1)) = if errL (l.take k) ≠ 0 then errL (l.take k) else rZ x := by
  rw [List.take_add_one, h]
  show errL (l.take k ++ [x]) = _
  rw [errL_app]
  by_cases e : rZ x = 0 <;> simp [errL, e]
theorem errL_bad {l : List Im} {k : Nat} (h : errL (l.take k) ≠ 0) : errL l = errL (l.take k) := by
  conv => lhs; rw [← List.take_append_drop k l]
  rw [errL_app, if_pos h]
theorem errL_mem : ∀ {l : List Im}, errL l = 0 → ∀ x ∈ l, rZ x = 0
  | [], _, x, hx => by cases hx
  | y :: l, h, x, hx => by
    simp only [errL] at h
    by_cases e : rZ y = 0
    · simp only [e, ne_eq, not_true_eq_false, if_false] at h
      rcases List.mem_cons.1 hx with rfl | hx
      · exact e
      · exact errL_mem h x hx
    · simp [e] at h
/-- Many imports' bytes. -/
noncomputable def iputsL (l : List Im) : List UInt8 := l.flatMap iputL
theorem iputsL_snoc {l : List Im} {k : Nat} {x : Im} (h : l[k]? = some x) : iputsL (l.take (k + 1)) = iputsL (l.take k) ++ iputL x := by
  unfold iputsL
  rw [List.take_add_one, h, List.flatMap_append]
  simp
/-- The names are short. -/
def ShortI (l : List Im) : Prop := ∀ x ∈ l, x.mod.length ≤ 400 ∧ x.nam.length ≤ 400
theorem iputsL_len : ∀ {l : List Im}, ShortI l → (iputsL l).length ≤ l.length * 843
  | [], _ => by simp [iputsL]
  | x :: r, h => by
    have h1 := iputsL_len (l := r) (fun y hy => h y (List.mem_cons_of_mem _ hy))
    have h2 := h x (by simp)
    have h3 := (iputL_len (n := 400) h2.1 h2.2 (by omega)).2
    unfold iputsL at h1 ⊢
    rw [List.flatMap_cons, List.length_append, List.length_cons]
    omega
noncomputable def allL (l : List Im) : List UInt8 := lebL l.length ++ iputsL l
/-- What PutAll hands back. -/
def PuttedAll (l : List Im) (w : World) (e : Ending) (w' : World) : Prop := ∃ v, e = .returned (.tuple #[v, .int .i64 (errL l)]) ∧ Row w' w.heap.size v (if errL l = 0 then allL l else []) ∧ Below w.heap.size w w'
theorem cfIP (a : Array Value) (w : World) : (callFunc 20 a).run Tryd.prog w = .ok (.enter 20 a) w := by kernel_rfl
set_option maxHeartbeats 4000000 in
theorem wputall_im {w : World} {A : Option Addr} {c : Nat} {l : List Im} (hl : Ims w A l) (hT : Tabs w) (hs : ShortI l) (h20 : l.length ≤ 1000) :
    Calls Tryd.prog 86 #[.slice A l.length c, .func (.func 20) #[] #[]] w (PuttedAll l w) := by
  have HL := Lib.hid hl
  have HTb := Lib.hid hT
  have HSh := Lib.hid hs
  have hall := iputsL_len hs
  have hlb := lebL_len (l.length : Int) (by omega)
  have HZ := Lib.hid (fun W => size_w l.length W (by omega))
  obtain ⟨n, hn⟩ : ∃ n, n = l.length := ⟨_, rfl⟩
  obtain ⟨hd, hhd⟩ : ∃ hd, hd = lebL (l.length : Int) := ⟨_, rfl⟩
  rw [← hhd] at HZ hlb
  have HN := Lib.hid hn
  have HE := Lib.hid (show l.take n = l by rw [hn, List.take_length])
  have HAL := Lib.hid (show allL l = hd ++ iputsL l by rw [hhd]; rfl)
  have HPL := Lib.hid (fun k => show (iputsL (l.take k)).length ≤ (iputsL l).length by
    have e : iputsL l = iputsL (l.take k) ++ iputsL (l.drop k) := by unfold iputsL; rw [← List.flatMap_append, List.take_append_drop]
    rw [e, List.length_append]; omega)
  rw [← hn] at hall h20 HZ ⊢
  have d10 : decide ((10000 : Int) < (n : Int)) = false := decide_eq_false (by omega)
  have hcf := cfIP
  clear hl hT hs hn hhd
  go_enter Tryd.func86, Tryd.ntmps86
  go_wp2_with (go_at_call 96; go_must ((with_reducible refine (HZ.out _).mono ?_); intro e w1 h; obtain ⟨v, rfl, hr, hb⟩ := h; have HR := Lib.hid hr; have HB := Lib.hid hb; clear hr hb))
  go_loopw [6, 19] (fun v i wr => ∃ k : Nat, k ≤ n ∧ i = .int .i64 k ∧ errL (l.take k) = 0 ∧ Row wr w.heap.size v (hd ++ iputsL (l.take k)) ∧ Below w.heap.size w wr) (fun _ i _ => n - (intOf i).toNat)
  case atStart => exact ⟨0, Nat.zero_le _, rfl, rfl, by simpa [iputsL] using HR.out, HB.out⟩
  case round =>
    obtain ⟨k, hk, rfl, he, hr, hb⟩ := hrel
    have hz1 := hb.size
    by_cases hlt : k < n
    · obtain ⟨x, hx⟩ : ∃ x, l[k]? = some x := ⟨_, List.getElem?_eq_getElem (by rw [← HN.out]; exact hlt)⟩
      obtain ⟨b, off, rfl, hbl, m0, m1, m2, m3, m4, m5, m6, m7, m8⟩ := (HL.out.below hb).nine hx
      have hxs := HSh.out x (List.mem_of_getElem? hx)
      have hTk := errL_snoc hx
      have hPk := iputsL_snoc hx
      have hpl := HPL.out (k + 1)
      have HB2 := Lib.hid (hb.alloc hz1 (.cells (imC x) 49))
      have HR2 := Lib.hid (hr.alloc (.cells (imC x) 49))
      have HP := Lib.hid (put_im x (wr.alloc (.cells (imC x) 49)) (HTb.out.below HB2.out) (by omega) (by omega))
      have hzb : wr.heap.size ≤ (wr.alloc (.cells (imC x) 49)).heap.size := (below_box wr _).size
      rw [he] at hTk
      simp only [ne_eq, not_true_eq_false, if_false] at hTk
      unfold Putted at HP
      have HTk := Lib.hid hTk
      have HPk := Lib.hid hPk
      by_cases z0 : rZ x = 0
      · rw [if_pos z0, z0] at HP
        have hil := iputL_len (n := 400) hxs.1 hxs.2 (by omega)
        have hsz : (hd ++ iputsL (l.take k)).length + (iputL x).length ≤ 1000000 := by
          rw [hPk, List.length_append] at hpl
          rw [List.length_append]
          omega
        have HIL := Lib.hid hil
        have HSZ := Lib.hid hsz
        obtain ⟨y, hy⟩ : ∃ y, y = iputL x := ⟨_, rfl⟩
        rw [← hy] at HP HPk HIL HSZ
        have HZ0 := Lib.hid z0
        clear hTk hPk hpl he hr hb z0 hil hsz hy hxs
        go_wp2_with (first
          | (go_at_call 20; go_must ((with_reducible refine HP.out.mono ?_); intro e w3 h; obtain ⟨v3, rfl, hr3, hb3⟩ := h; obtain ⟨A3, c3, rfl, hp3⟩ := hr3.pc; have HP3 := Lib.hid hp3; have HR3 := Lib.hid (HR2.out.later hb3); have HB3 := Lib.hid (HB2.out.trans (hb3.mono HB2.out.size)); have hz3 := HB3.out.size; clear hr3 hb3 hp3))
          | (at_builtin; (refine row_any rfl _ _ rfl w.heap.size _ (hd ++ iputsL (l.take k)) rfl HR3.out A3 y.length c3 w3.heap.size y rfl rfl HP3.out.lies HP3.out.nil HSZ.out hz3 ?_; intro v4 w4 hr4 hb4; have HR4 := Lib.hid hr4; have HB4 := Lib.hid hb4; clear hr4 hb4)))
        go_roundw
        case rel => exact ⟨k + 1, by omega, by go_num, by rw [HTk.out]; exact HZ0.out, by rw [HPk.out, ← List.append_assoc]; exact HR4.out, HB3.out.trans HB4.out⟩
        case measure => simp [intOf]; omega
      · rw [if_neg z0] at HP
        have hbad := errL_bad (l := l) (k := k + 1) (by rw [hTk]; exact z0)
        rw [hTk] at hbad
        have HBAD := Lib.hid hbad
        have dz : (rZ x != 0) = true := zb_of (by simpa using z0)
        have HZ0 := Lib.hid (show ¬ errL l = 0 by rw [hbad]; exact z0)
        clear hTk hPk hpl he hr hb z0 hbad hxs
        generalize rZ x = z at *
        go_wp2_with (go_at_call 20; go_must ((with_reducible refine HP.out.mono ?_); intro e w3 h; obtain ⟨v3, rfl, hr3, hb3⟩ := h; have HB3 := Lib.hid (HB2.out.trans (hb3.mono HB2.out.size)); clear hr3 hb3))
        go_ret2
        exact ⟨_, ret_pair HBAD.out.symm, by rw [if_neg HZ0.out]; exact Row.nil _ _, HB3.out⟩
    · obtain rfl : k = n := by omega
      rw [HE.out] at he
      rw [HE.out] at hr
      have HE2 := Lib.hid he
      have HR2 := Lib.hid hr
      have HB2 := Lib.hid hb
      clear hr hb he
      go_wp2
      go_ret2
      exact ⟨_, ret_pair HE2.out.symm, by rw [if_pos HE2.out, HAL.out]; exact HR2.out, HB2.out⟩
theorem putall_im {w : World} {A : Option Addr} {c : Nat} {l : List Im} (hl : Ims w A l) (hT : Tabs w) (hs : ShortI l) (h20 : l.length ≤ 1000) :
    Calls Tryd.prog 30 #[.slice A l.length c] w (PuttedAll l w) := by
  have HP := Lib.hid (wputall_im (c := c) hl hT hs h20)
  unfold PuttedAll at HP
  clear hl hT hs h20
  go_enter Tryd.func30, Tryd.ntmps30
  go_wp2_with (go_at_call 86; go_must ((with_reducible refine HP.out.mono ?_); intro e w1 h; obtain ⟨v, rfl, hr, hb⟩ := h; have HR := Lib.hid hr; have HB := Lib.hid hb; clear hr hb))
  go_ret2
  exact ⟨_, rfl, HR.out, HB.out⟩
end Go.Proofs.YtanddfkhokcepaaDoor

/- abort.Value of a function that ends well, whatever it hands back: api.Import. (By gen/genIVal.py.) -/
namespace Go.Proofs.YtanddfkhokcepaaDoor
open Go.RowKit
set_option linter.unusedVariables false
set_option maxRecDepth 100000

theorem cfVJ (cap : Array Value) (w : World) : (callFunc 76 cap).run Tryd.prog w = .ok (.enter 76 cap) w := by kernel_rfl
section
variable {T : Im → World → Prop}
/-- Value's own closure: what the step hands back lies in its cell. -/
theorem valClosJ {g : FuncId} {cap : Array Value} {b1 b4 q : Nat} {w : World} {z : Array Value} (hz : z.size = 9) (hcf : ∀ w : World, (callFunc g cap).run Tryd.prog w = .ok (.enter g cap) w)
    (h1 : Whole w b1 59 #[.func (.func g) #[] cap]) (h4 : Whole w b4 49 #[.string { data := #[] }, .string { data := #[] }, .int .u8 0, .int .u32 0, .int .u32 0, .int .u32 0, .bool false, .int .u8 0, .bool false]) (hb : q < b4) (hT : ∀ x W W', T x W → W.grownBy W' (some b4) → T x W')
    (h : Calls Tryd.prog g cap w fun e w' => ∃ x, e = .returned (imV x) ∧ T x w' ∧ w.grownBy w' (some q)) :
    Calls Tryd.prog 76 #[.pointer (some ⟨b1, 0, none⟩), .pointer (some ⟨b4, 0, none⟩)] w fun e w' =>
      e = .returned (.tuple #[]) ∧ ∃ x, T x w' ∧ Whole w' b4 49 #[.string (S x.mod), .string (S x.nam), .int .u8 x.kind.toNat, .int .u32 x.typ.toNat, .int .u32 x.mn.toNat, .int .u32 x.mx.toNat, .bool x.bd, .int .u8 x.gt.toNat, .bool x.gm] ∧ ∃ w1, w.grownBy w1 (some q) ∧ w1.grownBy w' (some b4) := by
  have hnil : ∀ w : World, (binOp BinOp.neq 59 (.func (.func g) #[] cap) .nilFunc).run Tryd.prog w = .ok (.bool true) w := fun _ => by kernel_rfl
  have c1 := h1.cell 0
  simp only [List.getElem?_toArray, List.getElem?_cons_zero] at c1
  have HH := Lib.hid h
  have H4 := Lib.hid h4
  have HT := Lib.hid hT
  clear h h1 h4 hT
  go_enter Tryd.func76, Tryd.ntmps76
  go_wp2_with fail
  refine HH.out.mono ?_
  rintro e w1 ⟨x, rfl, hs, hg⟩
  have HW := H4.out.grown hg (by simp only [ne_eq, Option.some.injEq]; omega)
  have k0 := HW.cell 0
  have k1 := HW.cell 1
  have k2 := HW.cell 2
  have k3 := HW.cell 3
  have k4 := HW.cell 4
  have k5 := HW.cell 5
  have k6 := HW.cell 6
  have k7 := HW.cell 7
  have k8 := HW.cell 8
  have f0 := HW.frozen 0
  have f1 := HW.frozen 1
  have f2 := HW.frozen 2
  have f3 := HW.frozen 3
  have f4 := HW.frozen 4
  have f5 := HW.frozen 5
  have f6 := HW.frozen 6
  have f7 := HW.frozen 7
  have f8 := HW.frozen 8
  simp only [List.getElem?_toArray, List.getElem?_cons_zero, List.getElem?_cons_succ] at k0 k1 k2 k3 k4 k5 k6 k7 k8
  obtain ⟨p1, p2⟩ := put9 (u0 := .string (S x.mod)) (u1 := .string (S x.nam)) (u2 := .int .u8 x.kind.toNat) (u3 := .int .u32 x.typ.toNat) (u4 := .int .u32 x.mn.toNat) (u5 := .int .u32 x.mx.toNat) (u6 := .bool x.bd) (u7 := .int .u8 x.gt.toNat) (u8 := .bool x.gm) HW
  have F : Hid (T x (((((((((w1.setCell ⟨b4, 0, none⟩ (.string (S x.mod))).setCell ⟨b4, 1, none⟩ (.string (S x.nam))).setCell ⟨b4, 2, none⟩ (.int .u8 x.kind.toNat)).setCell ⟨b4, 3, none⟩ (.int .u32 x.typ.toNat)).setCell ⟨b4, 4, none⟩ (.int .u32 x.mn.toNat)).setCell ⟨b4, 5, none⟩ (.int .u32 x.mx.toNat)).setCell ⟨b4, 6, none⟩ (.bool x.bd)).setCell ⟨b4, 7, none⟩ (.int .u8 x.gt.toNat)).setCell ⟨b4, 8, none⟩ (.bool x.gm))) := HT.out _ _ _ hs p2
  have P1 := Lib.hid p1
  have P2 := Lib.hid p2
  have HG := Lib.hid hg
  clear p1 p2 hs hg HW hcf
  go_wp2_with fail
  go_end0
  exact ⟨rfl, x, F.out, P1.out, w1, HG.out, P2.out⟩
/-- What Value's closure leaves behind, seen from Value's beginning. -/
structure VSJ (T : Im → World → Prop) (w : World) (q : Nat) (x : Im) (w1 : World) : Prop where
  kept : T x w1
  grown : w.grownBy w1 (some q)
  val : Whole w1 (w.heap.size + 3) 49 #[.string (S x.mod), .string (S x.nam), .int .u8 x.kind.toNat, .int .u32 x.typ.toNat, .int .u32 x.mn.toNat, .int .u32 x.mx.toNat, .bool x.bd, .int .u8 x.gt.toNat, .bool x.gm]
  r1 : Whole w1 (w.heap.size + 1) 49 #[.string { data := #[] }, .string { data := #[] }, .int .u8 0, .int .u32 0, .int .u32 0, .int .u32 0, .bool false, .int .u8 0, .bool false]
  r2 : Whole w1 (w.heap.size + 2) 39 #[.int .i64 0, .int .i64 0]
/-- The world in which Value calls Out. -/
def vWorldJ (g : FuncId) (cap : Array Value) (w : World) : World :=
  (((w.alloc (.cells #[.func (.func g) #[] cap] 59)).alloc (.cells #[.string { data := #[] }, .string { data := #[] }, .int .u8 0, .int .u32 0, .int .u32 0, .int .u32 0, .bool false, .int .u8 0, .bool false] 49)).alloc (.cells #[.int .i64 0, .int .i64 0] 39)).alloc (.cells #[.string { data := #[] }, .string { data := #[] }, .int .u8 0, .int .u32 0, .int .u32 0, .int .u32 0, .bool false, .int .u8 0, .bool false] 49)
theorem vWorld_factsJ (g : FuncId) (cap : Array Value) (w : World) : (vWorldJ g cap w).heap.size = w.heap.size + 4 ∧ Whole (vWorldJ g cap w) w.heap.size 59 #[.func (.func g) #[] cap] ∧
    Whole (vWorldJ g cap w) (w.heap.size + 1) 49 #[.string { data := #[] }, .string { data := #[] }, .int .u8 0, .int .u32 0, .int .u32 0, .int .u32 0, .bool false, .int .u8 0, .bool false] ∧ Whole (vWorldJ g cap w) (w.heap.size + 2) 39 #[.int .i64 0, .int .i64 0] ∧
    Whole (vWorldJ g cap w) (w.heap.size + 3) 49 #[.string { data := #[] }, .string { data := #[] }, .int .u8 0, .int .u32 0, .int .u32 0, .int .u32 0, .bool false, .int .u8 0, .bool false] ∧ Below w.heap.size w (vWorldJ g cap w) := by
  have b1 := Whole.made w 59 #[.func (.func g) #[] cap]
  have b2 := Whole.made (w.alloc (.cells #[.func (.func g) #[] cap] 59)) 49 #[.string { data := #[] }, .string { data := #[] }, .int .u8 0, .int .u32 0, .int .u32 0, .int .u32 0, .bool false, .int .u8 0, .bool false]
  have b3 := Whole.made ((w.alloc (.cells #[.func (.func g) #[] cap] 59)).alloc (.cells #[.string { data := #[] }, .string { data := #[] }, .int .u8 0, .int .u32 0, .int .u32 0, .int .u32 0, .bool false, .int .u8 0, .bool false] 49)) 39 #[.int .i64 0, .int .i64 0]
  have b4 := Whole.made (((w.alloc (.cells #[.func (.func g) #[] cap] 59)).alloc (.cells #[.string { data := #[] }, .string { data := #[] }, .int .u8 0, .int .u32 0, .int .u32 0, .int .u32 0, .bool false, .int .u8 0, .bool false] 49)).alloc (.cells #[.int .i64 0, .int .i64 0] 39)) 49 #[.string { data := #[] }, .string { data := #[] }, .int .u8 0, .int .u32 0, .int .u32 0, .int .u32 0, .bool false, .int .u8 0, .bool false]
  simp only [World.size_alloc] at b2 b3 b4
  exact ⟨by simp [vWorldJ], ((b1.alloc _).alloc _).alloc _, (b2.alloc _).alloc _, b3.alloc _, b4,
    ((((Below.refl _ _).alloc (Nat.le_refl _) _).alloc (by simp) _).alloc (by simp; omega) _).alloc (by simp; omega) _⟩
theorem value_outJ {g : FuncId} {cap : Array Value} {q : Nat} {w : World} (hcf : ∀ w : World, (callFunc g cap).run Tryd.prog w = .ok (.enter g cap) w) (hq : q < w.heap.size)
    (hT : ∀ x W W' b, w.heap.size ≤ b → b < w.heap.size + 5 → T x W → W.grownBy W' (some b) → T x W')
    (h : ∀ W, Below w.heap.size w W → w.heap.size + 5 ≤ W.heap.size → Calls Tryd.prog g cap W fun e w' => ∃ x, e = .returned (imV x) ∧ T x w' ∧ W.grownBy w' (some q)) :
    Calls Tryd.prog 75 #[.func (.func 76) #[] #[.pointer (some ⟨w.heap.size, 0, none⟩), .pointer (some ⟨w.heap.size + 3, 0, none⟩)]] (vWorldJ g cap w) fun e w' => e = .returned (.agg #[.int .i64 0, .int .i64 0]) ∧ ∃ x, VSJ T w q x w' := by
  obtain ⟨hz, b1, b2, b3, b4, hbe⟩ := vWorld_factsJ g cap w
  have b5 := Whole.made (vWorldJ g cap w) 39 #[.int .i64 0, .int .i64 0]
  have hbe2 : Below w.heap.size w ((vWorldJ g cap w).alloc (.cells #[.int .i64 0, .int .i64 0] 39)) := hbe.alloc (by omega) _
  have hc := valClosJ (T := T) (z := #[.string { data := #[] }, .string { data := #[] }, .int .u8 0, .int .u32 0, .int .u32 0, .int .u32 0, .bool false, .int .u8 0, .bool false]) rfl hcf (b1.alloc (.cells #[.int .i64 0, .int .i64 0] 39)) (b4.alloc _) (by omega : q < w.heap.size + 3) (fun x W W' => hT x W W' _ (by omega) (by omega)) (h _ hbe2 (by rw [size_box]; omega))
  refine (out_any _ _ 0 0 (vWorldJ g cap w) (fun w1 => (∃ x, VSJ T w q x w1) ∧ Whole w1 (vWorldJ g cap w).heap.size 39 #[.int .i64 0, .int .i64 0]) (cfVJ _) (hc.mono ?_) (fun _ h => h.2)).mono ?_
  · rintro e w' ⟨rfl, x, hs, hv, w1, hg1, hg2⟩
    have hz2 : w.heap.size + 5 ≤ w1.heap.size := by have := hg1.size; simp only [World.size_alloc] at this; omega
    refine ⟨.inl ⟨rfl, rfl, rfl⟩, ⟨x, hs, ?_, hv, ?_, ?_⟩, ?_⟩
    · exact gb_before (gb_trans (gb_of_below (some q) hbe2) hg1) hg2 (fun g e => .inr (by injection e with e; omega))
    · exact ((b2.alloc _).grown hg1 (by simp only [ne_eq, Option.some.injEq]; omega)).grown hg2 (by simp only [ne_eq, Option.some.injEq]; omega)
    · exact ((b3.alloc _).grown hg1 (by simp only [ne_eq, Option.some.injEq]; omega)).grown hg2 (by simp only [ne_eq, Option.some.injEq]; omega)
    · exact (b5.grown hg1 (by simp only [ne_eq, Option.some.injEq]; omega)).grown hg2 (by simp only [ne_eq, Option.some.injEq]; omega)
  · rintro e w' ⟨rfl, w1, ⟨⟨x, hs⟩, _⟩, hg⟩
    rw [hz] at hg
    exact ⟨rfl, x, hT x _ _ _ (by omega) (by omega) hs.kept hg, gb_before hs.grown hg (fun g e => .inr (by injection e with e; omega)), hs.val.grown hg (by simp only [ne_eq, Option.some.injEq]; omega), hs.r1.grown hg (by simp only [ne_eq, Option.some.injEq]; omega), hs.r2.grown hg (by simp only [ne_eq, Option.some.injEq]; omega)⟩

set_option maxHeartbeats 800000 in
/-- Value of a function that ends well. -/
theorem valueJ_ok {g : FuncId} {cap : Array Value} {q : Nat} {w : World} (hcf : ∀ w : World, (callFunc g cap).run Tryd.prog w = .ok (.enter g cap) w) (hq : q < w.heap.size)
    (hT : ∀ x W W' b, w.heap.size ≤ b → b < w.heap.size + 5 → T x W → W.grownBy W' (some b) → T x W')
    (h : ∀ W, Below w.heap.size w W → w.heap.size + 5 ≤ W.heap.size → Calls Tryd.prog g cap W fun e w' => ∃ x, e = .returned (imV x) ∧ T x w' ∧ W.grownBy w' (some q)) :
    Calls Tryd.prog 23 #[.func (.func g) #[] cap] w fun e w' => ∃ x, e = .returned (.tuple #[imV x, .agg #[.int .i64 0, .int .i64 0]]) ∧ T x w' ∧ w.grownBy w' (some q) := by
  have hv := value_outJ hcf hq hT h
  unfold vWorldJ at hv
  have HV := Lib.hid hv
  have HT := Lib.hid hT
  have hmf : ∀ (fn : Fn) (first cap : Array Value) (w : World), (Instr.makeFunc fn first cap).run Tryd.prog w = .ok (.func fn first cap) w := fun _ _ _ _ => rfl
  clear h hv hcf hT
  go_enter Tryd.func23, Tryd.ntmps23
  go_wp2_with (go_at_call 75; go_must (refine HV.out.mono ?_; rintro e w2 ⟨rfl, x, hl⟩; have k0 := fun o => (hl.val.alloc o).cell 0; have f0 := fun o => (hl.r1.alloc o).frozen 0; have m0 := fun o => (hl.r1.alloc o).cell 0; have k1 := fun o => (hl.val.alloc o).cell 1; have f1 := fun o => (hl.r1.alloc o).frozen 1; have m1 := fun o => (hl.r1.alloc o).cell 1; have k2 := fun o => (hl.val.alloc o).cell 2; have f2 := fun o => (hl.r1.alloc o).frozen 2; have m2 := fun o => (hl.r1.alloc o).cell 2; have k3 := fun o => (hl.val.alloc o).cell 3; have f3 := fun o => (hl.r1.alloc o).frozen 3; have m3 := fun o => (hl.r1.alloc o).cell 3; have k4 := fun o => (hl.val.alloc o).cell 4; have f4 := fun o => (hl.r1.alloc o).frozen 4; have m4 := fun o => (hl.r1.alloc o).cell 4; have k5 := fun o => (hl.val.alloc o).cell 5; have f5 := fun o => (hl.r1.alloc o).frozen 5; have m5 := fun o => (hl.r1.alloc o).cell 5; have k6 := fun o => (hl.val.alloc o).cell 6; have f6 := fun o => (hl.r1.alloc o).frozen 6; have m6 := fun o => (hl.r1.alloc o).cell 6; have k7 := fun o => (hl.val.alloc o).cell 7; have f7 := fun o => (hl.r1.alloc o).frozen 7; have m7 := fun o => (hl.r1.alloc o).cell 7; have k8 := fun o => (hl.val.alloc o).cell 8; have f8 := fun o => (hl.r1.alloc o).frozen 8; have m8 := fun o => (hl.r1.alloc o).cell 8; have f88 := fun o => (hl.r2.alloc o).frozen 0; have f99 := fun o => (hl.r2.alloc o).frozen 1; have m88 := fun o => (hl.r2.alloc o).cell 0; have m99 := fun o => (hl.r2.alloc o).cell 1; simp only [List.getElem?_toArray, List.getElem?_cons_zero, List.getElem?_cons_succ] at k0 k1 k2 k3 k4 k5 k6 k7 k8 m0 m1 m2 m3 m4 m5 m6 m7 m8 m88 m99; have hz := hl.grown.size; have HL := Lib.hid hl; clear hl))
  have hb : w.heap.size + 1 + 1 = w.heap.size + 2 := by omega
  rw [hb]
  obtain ⟨p1, g1⟩ := put9 (u0 := .string (S x.mod)) (u1 := .string (S x.nam)) (u2 := .int .u8 x.kind.toNat) (u3 := .int .u32 x.typ.toNat) (u4 := .int .u32 x.mn.toNat) (u5 := .int .u32 x.mx.toNat) (u6 := .bool x.bd) (u7 := .int .u8 x.gt.toNat) (u8 := .bool x.gm) (HL.out.r1.alloc (.cells #[.int .i64 0, .int .i64 0] 39))
  obtain ⟨p2, g2⟩ := put2 (u0 := .int .i64 0) (u1 := .int .i64 0) ((HL.out.r2.alloc (.cells #[.int .i64 0, .int .i64 0] 39)).grown g1 (by simp only [ne_eq, Option.some.injEq]; omega))
  have p3 := p1.grown g2 (by simp only [ne_eq, Option.some.injEq]; omega)
  have q0 := p3.cell 0
  have q1 := p3.cell 1
  have q2 := p3.cell 2
  have q3 := p3.cell 3
  have q4 := p3.cell 4
  have q5 := p3.cell 5
  have q6 := p3.cell 6
  have q7 := p3.cell 7
  have q8 := p3.cell 8
  have q88 := p2.cell 0
  have q99 := p2.cell 1
  simp only [List.getElem?_toArray, List.getElem?_cons_zero, List.getElem?_cons_succ] at q0 q1 q2 q3 q4 q5 q6 q7 q8 q88 q99
  refine bodyPost_ret (v := .tuple #[imV x, .agg #[.int .i64 0, .int .i64 0]]) (by simp [results, Tryd.results23, go_sem, q0, q1, q2, q3, q4, q5, q6, q7, q8, q88, q99]) rfl ⟨x, rfl, ?_, ?_⟩
  · exact HT.out _ _ _ _ (by omega) (by omega) (HT.out _ _ _ _ (by omega) (by omega) (HT.out _ _ _ w.heap.size (Nat.le_refl _) (by omega) HL.out.kept (gb_alloc (gb_refl _ _) _)) g1) g2
  · exact gb_before (gb_before (gb_alloc HL.out.grown _) g1 (fun g e => .inr (by injection e with e; omega))) g2 (fun g e => .inr (by injection e with e; omega))
end
end Go.Proofs.YtanddfkhokcepaaDoor
