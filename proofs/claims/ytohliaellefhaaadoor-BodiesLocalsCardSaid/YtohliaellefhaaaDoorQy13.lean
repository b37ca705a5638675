/- wire.GetIndices of any bytes: numbers behind their number, in a row of the call's own; the labels of an instruction that was read. -/
import Derived.Test.YtohliaellefhaaaDoorQy12
import Derived.Test.YtohliaellefhaaaDoorQy09
import Derived.OwnWalk
import Derived.Test.YtohliaellefhaaaDoorQy11
import Derived.Test.YtohliaellefhaaaDoorQy10
namespace Go.Proofs.YtohliaellefhaaaDoor
open Go.RowKit
set_option linter.unusedVariables false
set_option maxRecDepth 100000

theorem info32 : (Tryd.prog.info? 62).map (fun i => (i.zero, i.size, i.bytes)) = some (some (.int .u32 0), 1, 4) := by kernel_rfl
/-- Labels: none, or the beginning of a block of their own. -/
def LabT (W : World) (A : Option Addr) (ls : List Int) : Prop := (A = none ∧ ls = []) ∨ ∃ g cur, A = some ⟨g, 0, none⟩ ∧ Whole W g 62 cur ∧ cur.toList.take ls.length = cells32 ls
theorem LabT.keep {W W' : World} {A : Option Addr} {ls : List Int} {row : Option Nat} (h : LabT W A ls) (hg : W.grownBy W' row) (hq : ∀ a, A = some a → some a.block ≠ row) : LabT W' A ls := by
  rcases h with h | ⟨g, cur, rfl, h, ht⟩
  · exact .inl h
  · exact .inr ⟨g, cur, rfl, h.grown hg (hq _ rfl), ht⟩
theorem LabT.lies {W : World} {A : Option Addr} {ls : List Int} (h : LabT W A ls) : Lies W W.heap.size A (cells32 ls) := by
  rcases h with ⟨rfl, rfl⟩ | ⟨g, cur, rfl, h, ht⟩
  · intro j v hv; simp [cells32] at hv
  · intro j v hv
    refine ⟨g, 0, rfl, h.lt, ?_⟩
    rw [h.cell]
    rw [← ht] at hv
    have hj : j < ls.length := by have := (List.getElem?_eq_some_iff.1 hv).1; rw [List.length_take] at this; omega
    rw [List.getElem?_take, if_pos hj] at hv
    simpa using hv
theorem LabT.apart {W : World} {A : Option Addr} {ls : List Int} (h : LabT W A ls) {q : Nat} {t : TypeId} {cs : Array Value} (hw : Whole W q t cs) (ht : t ≠ 62) : ∀ a, A = some a → some a.block ≠ some q := by
  rcases h with ⟨rfl, rfl⟩ | ⟨g, cur, rfl, h, _⟩
  · intro a e; cases e
  · intro a e
    injection e with e
    subst e
    simp only [ne_eq, Option.some.injEq]
    exact fun e => hw.apart h ht e.symm
theorem own_whole {W : World} {b : Nat} {e : TypeId} {s n q : Nat} {v : Value} {xs : List Value} {t : TypeId} {cs : Array Value} (h : W.ownsRow b e s v n xs) (hw : Whole W q t cs) (ht : t ≠ e) : some q ≠ v.ownBlock := by
  rcases h.2 with ⟨rfl, _⟩ | ⟨g, cap, cur, rfl, _, hg, _⟩
  · simp [Value.ownBlock]
  · simp only [Value.ownBlock, ne_eq, Option.some.injEq]
    exact hw.apart (show Whole W g e cur from hg) ht
theorem lab_own {W : World} {b : Nat} {e : TypeId} {s n : Nat} {v : Value} {xs : List Value} {A : Option Addr} {ls : List Int} (hl : LabT W A ls) (h : W.ownsRow b e s v n xs) (ht : 62 ≠ e) : ∀ a, A = some a → some a.block ≠ v.ownBlock := by
  rcases hl with ⟨rfl, _⟩ | ⟨g, cur, rfl, hw, _⟩
  · intro a e; cases e
  · intro a e
    injection e with e
    subst e
    exact own_whole h hw ht
/-- Numbers in a row of the call's own. -/
def Row32 (W : World) (base : Nat) (v : Value) (acc : List Int) : Prop := W.ownsRow base 62 1 v acc.length (cells32 acc)
theorem Row32.nil (W : World) (base : Nat) : Row32 W base (.slice none 0 0) [] := World.ownsRow_nil W base _ 1
theorem Row32.past {W W' : World} {base b : Nat} {v : Value} {acc : List Int} (h : Row32 W base v acc) (hg : W.grownBy W' (some b)) (hb : b < base) : Row32 W' base v acc :=
  World.ownsRow.kept h hg (by
    cases hv : v.ownBlock with
    | none => exact .inl rfl
    | some k => exact .inr (by have := (World.ownsRow.lt h k hv).1; simp only [ne_eq, Option.some.injEq]; omega))
/-- What a row reads as. -/
theorem Row32.labT {W : World} {base : Nat} {v : Value} {acc : List Int} (h : Row32 W base v acc) : ∃ A c, v = .slice A acc.length c ∧ LabT W A acc ∧ ∀ a, A = some a → base ≤ a.block := by
  rcases h.2 with ⟨rfl, h0⟩ | ⟨g, cap, cur, rfl, hb, hg, _, _, _, ht⟩
  · have : acc = [] := List.eq_nil_of_length_eq_zero h0
    subst this
    exact ⟨none, 0, rfl, .inl ⟨rfl, rfl⟩, fun a e => by cases e⟩
  · exact ⟨some ⟨g, 0, none⟩, cap, rfl, .inr ⟨g, cur, rfl, hg, by rw [Nat.mul_one] at ht; exact ht⟩, fun a e => by injection e with e; subst e; exact hb⟩
/-- append of a new block of one number. -/
theorem row32_new {w : World} {ops : Array Oper} {rest : List Oper} {o : Oper} {a : Act} {Q : Exit → Act → World → Prop} (hgd : o.guard = none) (s x : Operand)
    (ho : o.op = .call { callee := .builtin .append, args := #[s, x], argTypes := #[56, 56] })
    (B : Nat) (v : Value) (acc : List Int) (hs : a.eval s = v) (hr : Row32 w B v acc) (g : Nat) (y : Int) (hx : a.eval x = .slice (some ⟨g, 0, none⟩) 1 1)
    (hg : Whole w g 62 #[.int .u32 y]) (hb : acc.length ≤ 10000) (hB : B ≤ w.heap.size)
    (h : ∀ v' w', Row32 w' B v' (acc ++ [y]) → w.grownBy w' v.ownBlock → wpList Tryd.prog ops Q rest (a.put o.dst v') w') : wpList Tryd.prog ops Q (o :: rest) a w := by
  obtain ⟨i0, hi0, hz0, hz1, hz2⟩ := info_parts info32
  refine wpList_append_own _ hgd s x _ ho B 62 i0 _ 1 4 Tryd.underlying56 hi0 hz0 hz1 hz2 rfl (by omega) v _ _ hs hr ⟨g, 0, none⟩ 1 1 [.int .u32 y] hx rfl ?_ ?_ (by unfold maxLen; omega) (by omega) hB (fun v' w' h2 h3 _ => h v' w' ?_ h3)
  · intro j u hu
    rw [Go.WideShapes.add_plain, Nat.zero_add, hg.cell]
    simpa using hu
  · intro u hu
    simp only [List.mem_cons, List.not_mem_nil, or_false] at hu
    subst hu
    rfl
  · unfold Row32
    rw [List.length_append]
    unfold cells32 at *
    rw [List.map_append]
    simpa using h2

/-- Numbers of 32 bits, one behind the other, behind those that are read. -/
noncomputable def idxK (l : List UInt8) : Nat → Nat → List Int → Res (List Int)
  | 0, q, acc => .ok acc q
  | n + 1, q, acc => (indexR l q).bind fun x q2 => idxK l n q2 (acc ++ [x])
theorem idxK_more {l : List UInt8} {n j q : Nat} {acc : List Int} (h : j < n) : idxK l (n - j) q acc = (indexR l q).bind fun x q2 => idxK l (n - (j + 1)) q2 (acc ++ [x]) := by
  rw [show n - j = n - (j + 1) + 1 by omega]; rfl
theorem idxK_at {l : List UInt8} : ∀ (ls : List Int) (k : Nat) (acc : List Int) (r : List UInt8), (∀ c ∈ ls, 0 ≤ c ∧ c ≤ 4294967295) → l.drop k = labsL ls ++ r → idxK l ls.length k acc = .ok (acc ++ ls) (k + (labsL ls).length)
  | [], k, acc, r, _, _ => by simp [idxK, labsL]
  | c :: ls, k, acc, r, hc, h => by
    have hd : l.drop k = lebL c ++ (labsL ls ++ r) := by rw [h]; unfold labsL; rw [List.flatMap_cons, List.append_assoc]
    have hb := hc c (by simp)
    have hi := indexR_at hd hb.1 hb.2
    have ih := idxK_at ls _ (acc ++ [c]) r (fun d hd => hc d (List.mem_cons_of_mem _ hd)) (drop_past hd)
    rw [List.length_cons]
    show (indexR l k).bind (fun x q2 => idxK l ls.length q2 (acc ++ [x])) = _
    rw [hi, Res.bind_ok, ih]
    unfold labsL
    rw [List.flatMap_cons, List.length_append, List.append_assoc, List.singleton_append, Nat.add_assoc]
/-- The labels, their number ahead of them. -/
noncomputable def labelsR (l : List UInt8) (k : Nat) : Res (List Int) := (countR l k).bind fun n k' => idxK l n.toNat k' []
theorem labelsR_at {l r : List UInt8} {k : Nat} {ls : List Int} (h : l.drop k = labL ls ++ r) (hl : ls.length ≤ 10000) (hc : ∀ c ∈ ls, 0 ≤ c ∧ c ≤ 4294967295) : labelsR l k = .ok ls (k + (labL ls).length) := by
  unfold labL at h ⊢
  rw [List.append_assoc] at h
  unfold labelsR
  rw [countR_at h (by omega) (by omega), Res.bind_ok, Int.toNat_natCast, idxK_at ls _ [] r hc (drop_past h), List.nil_append, List.length_append, Nat.add_assoc]
/-- Labels that were read. -/
def Labs (p : Nat) (l : List UInt8) (ls : List Int) (k : Nat) (w : World) (e : Ending) (w' : World) : Prop :=
  ∃ A c, e = .returned (.slice A ls.length c) ∧ (∀ a, A = some a → w.heap.size ≤ a.block) ∧ Sc w' p l k ∧ w.grownBy w' (some p) ∧ LabT w' A ls
/-- What GetIndices leaves behind. -/
def LabsR (p : Nat) (l : List UInt8) (r : Res (List Int)) (w : World) (e : Ending) (w' : World) : Prop := match r with
  | .ok ls k => Labs p l ls k w e w'
  | .err c a => e = .panicked (stopP c a) ∧ w.grownBy w' (some p)
/-- What holds at the head of its loop. -/
structure IxS (w : World) (p : Nat) (l : List UInt8) (k : Nat) (acc : List Int) (v : Value) (W : World) : Prop where
  sc : Sc W p l k
  g : w.grownBy W (some p)
  r : Row32 W w.heap.size v acc
section
variable {w W W' : World} {p : Nat} {l : List UInt8} {k k' : Nat} {acc : List Int} {x : Int} {v v' : Value}
theorem IxS.step (h : IxS w p l k acc v W) (hp : p < w.heap.size) (hg : W.grownBy W' (some p)) (hs : Sc W' p l k') : IxS w p l k' acc v W' :=
  ⟨hs, gb_trans h.g hg, h.r.past hg hp⟩
theorem IxS.alloc (h : IxS w p l k acc v W) (hp : p < w.heap.size) (o : Obj) : IxS w p l k acc v (W.alloc o) := h.step hp (gb_alloc (gb_refl _ _) o) (h.sc.alloc o)
theorem IxS.more (h : IxS w p l k acc v W) (hp : p < w.heap.size) (hg : W.grownBy W' v.ownBlock) (hr : Row32 W' w.heap.size v' (acc ++ [x])) : IxS w p l k (acc ++ [x]) v' W' := by
  have hlt := World.ownsRow.lt h.r
  exact ⟨h.sc.grown hg (fun e => by have := hlt p e.symm; omega) (fun g e => by have := hlt g e; omega), gb_before h.g hg (fun g e => .inr (hlt g e).1), hr⟩
end
end Go.Proofs.YtohliaellefhaaaDoor

/- The scanner's At and Int; getOp, getBlock, getNumber, wire.Nought of bytes that are right. -/
namespace Go.Proofs.YtohliaellefhaaaDoor
open Go.RowKit
set_option linter.unusedVariables false
set_option maxRecDepth 100000

/-- The tables lie below p, and nothing there has turned. -/
def TbP (p : Nat) (w : World) : Prop := ∃ W0, Tabs W0 ∧ W0.heap.size ≤ p ∧ Below W0.heap.size W0 w
theorem TbP.tabs {p : Nat} {w : World} (h : TbP p w) : Tabs w := by
  obtain ⟨W0, h1, _, h3⟩ := h
  exact h1.below h3
theorem TbP.of {p : Nat} {w : World} (h : Tabs w) (hp : w.heap.size ≤ p) : TbP p w := ⟨w, h, hp, Below.refl _ _⟩
theorem TbP.grown {p : Nat} {w w' : World} {row : Option Nat} (h : TbP p w) (hg : w.grownBy w' row) (hr : ∀ g, row = some g → p ≤ g) : TbP p w' := by
  obtain ⟨W0, h1, h2, h3⟩ := h
  exact ⟨W0, h1, h2, Below.grown h3 hg h3.size (fun g e => Nat.le_trans h2 (hr g e))⟩
theorem TbP.below {p B : Nat} {w w' : World} (h : TbP p w) (hb : Below B w w') (hB : p ≤ B) : TbP p w' := by
  obtain ⟨W0, h1, h2, h3⟩ := h
  exact ⟨W0, h1, h2, h3.trans (hb.mono (Nat.le_trans h2 hB))⟩
theorem TbP.self {p : Nat} {w w' : World} (h : TbP p w) (hg : w.grownBy w' (some p)) : TbP p w' := h.grown hg (fun g e => by injection e with e; omega)

theorem at_any {w : World} {p : Nat} {l : List UInt8} {k : Nat} (h : Sc w p l k) : Calls Tryd.prog 47 #[.pointer (some ⟨p, 0, none⟩)] w fun e w' => e = .returned (.int .i64 k) ∧ w = w' := by
  have c1 := h.at
  clear h
  go_enter Tryd.func47, Tryd.ntmps47
  go_wp2
  go_ret
  exact ⟨rfl, rfl⟩
abbrev encS64 (v : Int) : Value := .int .i64 v
end Go.Proofs.YtohliaellefhaaaDoor

/- instr.Get of an instruction's bytes. (By gen/genGet.py.) -/
namespace Go.Proofs.YtohliaellefhaaaDoor
open Go.RowKit
set_option linter.unusedVariables false
set_option maxRecDepth 100000

theorem Lies.keep {W W' : World} {A : Option Addr} {vs : List Value} {q : Nat} (h : Lies W W.heap.size A vs) (hg : W.grownBy W' (some q)) (hq : ∀ a, A = some a → a.block ≠ q) : Lies W' W'.heap.size A vs := fun j v hv => by
  obtain ⟨b, off, rfl, hb, hc⟩ := h j v hv
  refine ⟨b, off, rfl, Nat.lt_of_lt_of_le hb hg.size, ?_⟩
  have hne : b ≠ q := hq _ rfl
  rw [← hc]
  unfold World.cell?
  rw [hg.block b hb (by simpa using hne)]
/-- How far Get has come: its result's block, the instruction's box, the scanner. -/
structure GSt (w : World) (p : Nat) (l : List UInt8) (H2 : Nat) (A : Option Addr) (ls : List Int) (k : Nat) (v0 v1 v2 v3 : Value) (W : World) : Prop where
  res : Whole W w.heap.size 58 #[.int .u8 0, .int .u64 0, .int .u64 0, .slice none 0 0]
  box : Whole W H2 58 #[v0, v1, v2, v3]
  sc : Sc W p l k
  gr : w.grownBy W (some p)
  hp : p < w.heap.size
  h2 : w.heap.size < H2
  tb : TbP p W
  lab : Lies W W.heap.size A (cells32 ls)
  far : ∀ a, A = some a → H2 < a.block
  ty : LabT W A ls
section
variable {w : World} {p : Nat} {l : List UInt8} {H2 : Nat} {A : Option Addr} {ls : List Int} {k k' : Nat} {v0 v1 v2 v3 : Value} {W W' : World}
theorem GSt.call (h : GSt w p l H2 A ls k v0 v1 v2 v3 W) (hs : Sc W' p l k') (hg : W.grownBy W' (some p)) : GSt w p l H2 A ls k' v0 v1 v2 v3 W' := by
  have a := h.hp
  have b := h.h2
  exact ⟨h.res.grown hg (by simp only [ne_eq, Option.some.injEq]; omega), h.box.grown hg (by simp only [ne_eq, Option.some.injEq]; omega), hs, gb_trans h.gr hg, h.hp, h.h2, h.tb.self hg, h.lab.keep hg (fun x hx => by have := h.far x hx; omega), h.far, h.ty.keep hg (fun x hx => by have := h.far x hx; simp only [ne_eq, Option.some.injEq]; omega)⟩
theorem GSt.below (h : GSt w p l H2 A ls k v0 v1 v2 v3 W) (hb : Below W.heap.size W W') : GSt w p l H2 A ls k v0 v1 v2 v3 W' :=
  h.call (h.sc.below hb) (gb_of_below _ hb)
theorem GSt.put (h : GSt w p l H2 A ls k v0 v1 v2 v3 W) (i : Nat) (x : Value) {u0 u1 u2 u3 : Value} (he : #[v0, v1, v2, v3].setIfInBounds i x = #[u0, u1, u2, u3]) : GSt w p l H2 A ls k u0 u1 u2 u3 (W.setCell ⟨H2, i, none⟩ x) := by
  have a := h.hp
  have b := h.h2
  have hg : W.grownBy (W.setCell ⟨H2, i, none⟩ x) (some H2) := gb_put (p := ⟨H2, i, none⟩) (gb_refl W _) (.inl rfl) x
  have hb := h.box.put i x
  rw [he] at hb
  exact ⟨h.res.grown hg (by simp only [ne_eq, Option.some.injEq]; omega), hb, h.sc.grown hg (by simp only [ne_eq, Option.some.injEq]; omega) (fun g e => by injection e with e; omega), gb_before h.gr hg (fun g e => .inr (by injection e with e; omega)), h.hp, h.h2,
    h.tb.grown hg (fun g e => by injection e with e; omega), h.lab.keep hg (fun x hx => by have := h.far x hx; omega), h.far, h.ty.keep hg (fun x hx => by have := h.far x hx; simp only [ne_eq, Option.some.injEq]; omega)⟩
theorem GSt.labs (h : GSt w p l H2 none [] k v0 v1 v2 v3 W) (hty : LabT W A ls) (hf : ∀ a, A = some a → H2 < a.block) : GSt w p l H2 A ls k v0 v1 v2 v3 W :=
  ⟨h.res, h.box, h.sc, h.gr, h.hp, h.h2, h.tb, hty.lies, hf, hty⟩
/-- The result is written. -/
theorem GSt.fin (h : GSt w p l H2 A ls k v0 v1 v2 v3 W) (x0 x1 x2 x3 : Value) (W4 : World) (hW : W4 = (((W.setCell ⟨w.heap.size, 0, none⟩ x0).setCell ⟨w.heap.size, 1, none⟩ x1).setCell ⟨w.heap.size, 2, none⟩ x2).setCell ⟨w.heap.size, 3, none⟩ x3) :
    Whole W4 w.heap.size 58 #[x0, x1, x2, x3] ∧ Sc W4 p l k ∧ w.grownBy W4 (some p) ∧ Lies W4 W4.heap.size A (cells32 ls) ∧ LabT W4 A ls := by
  subst hW
  have a := h.hp
  have b := h.h2
  have hg := gb_put (p := ⟨w.heap.size, 3, none⟩) (gb_put (p := ⟨w.heap.size, 2, none⟩) (gb_put (p := ⟨w.heap.size, 1, none⟩) (gb_put (p := ⟨w.heap.size, 0, none⟩) (gb_refl W (some w.heap.size)) (.inl rfl) x0) (.inl rfl) x1) (.inl rfl) x2) (.inl rfl) x3
  exact ⟨(((h.res.put 0 x0).put 1 x1).put 2 x2).put 3 x3, h.sc.grown hg (by simp only [ne_eq, Option.some.injEq]; omega) (fun g e => by injection e with e; omega), gb_before h.gr hg (fun g e => .inr (by injection e with e; omega)), h.lab.keep hg (fun x hx => by have := h.far x hx; omega), h.ty.keep hg (fun x hx => by have := h.far x hx; simp only [ne_eq, Option.some.injEq]; omega)⟩
end
/-- What Get hands back of an instruction's bytes. -/
def Gets (p : Nat) (l : List UInt8) (i : I) (k : Nat) (w : World) (e : Ending) (w' : World) : Prop :=
  ∃ A c, e = .returned (insV i A c) ∧ Lies w' w'.heap.size A (cells32 i.l) ∧ (∀ a, A = some a → w.heap.size ≤ a.block) ∧ Sc w' p l k ∧ w.grownBy w' (some p) ∧ LabT w' A i.l
theorem gets_end {w : World} {p : Nat} {l : List UInt8} {i : I} {H2 : Nat} {A : Option Addr} {c k k' : Nat} {v0 v1 v2 v3 : Value} {W W4 : World} {v : Value} (h : GSt w p l H2 A i.l k v0 v1 v2 v3 W) (hf : Sc W4 p l k ∧ w.grownBy W4 (some p) ∧ Lies W4 W4.heap.size A (cells32 i.l) ∧ LabT W4 A i.l) (he : v = insV i A c) (hk : k = k') :
    Gets p l i k' w (.returned v) W4 := by
  subst hk
  exact ⟨A, c, by rw [he], hf.2.2.1, fun a ha => by have := h.far a ha; have := h.h2; omega, hf.1, hf.2.1, hf.2.2.2⟩
theorem ins_eq {i : I} {a b : Int} {v : Value} (hb : i.b = b) (ha : i.a = a) (hl : i.l = []) (hv : v = .slice none 0 0) : Value.agg #[.int .u8 i.op.toNat, .int .u64 a, .int .u64 b, v] = insV i none 0 := by
  subst hv; subst ha; subst hb
  show _ = Value.agg #[.int .u8 i.op.toNat, .int .u64 i.a, .int .u64 i.b, .slice none i.l.length 0]
  rw [hl]
  rfl

end Go.Proofs.YtohliaellefhaaaDoor

/- A block of one, two, four cells, all written. -/
namespace Go.Proofs.YtohliaellefhaaaDoor
open Go.RowKit
set_option linter.unusedVariables false

theorem put1 {w : World} {b : Nat} {t : TypeId} {x0 u0 : Value} (hb : Whole w b t #[x0]) : Whole (w.setCell ⟨b, 0, none⟩ u0) b t #[u0] ∧ w.grownBy (w.setCell ⟨b, 0, none⟩ u0) (some b) := ⟨(hb.put 0 u0), (gb_put (p := ⟨b, 0, none⟩) (gb_refl w _) (.inl rfl) u0)⟩
theorem put2 {w : World} {b : Nat} {t : TypeId} {x0 x1 u0 u1 : Value} (hb : Whole w b t #[x0, x1]) : Whole ((w.setCell ⟨b, 0, none⟩ u0).setCell ⟨b, 1, none⟩ u1) b t #[u0, u1] ∧ w.grownBy ((w.setCell ⟨b, 0, none⟩ u0).setCell ⟨b, 1, none⟩ u1) (some b) := ⟨((hb.put 0 u0).put 1 u1), (gb_put (p := ⟨b, 1, none⟩) (gb_put (p := ⟨b, 0, none⟩) (gb_refl w _) (.inl rfl) u0) (.inl rfl) u1)⟩
theorem put4 {w : World} {b : Nat} {t : TypeId} {x0 x1 x2 x3 u0 u1 u2 u3 : Value} (hb : Whole w b t #[x0, x1, x2, x3]) : Whole ((((w.setCell ⟨b, 0, none⟩ u0).setCell ⟨b, 1, none⟩ u1).setCell ⟨b, 2, none⟩ u2).setCell ⟨b, 3, none⟩ u3) b t #[u0, u1, u2, u3] ∧ w.grownBy ((((w.setCell ⟨b, 0, none⟩ u0).setCell ⟨b, 1, none⟩ u1).setCell ⟨b, 2, none⟩ u2).setCell ⟨b, 3, none⟩ u3) (some b) := ⟨((((hb.put 0 u0).put 1 u1).put 2 u2).put 3 u3), (gb_put (p := ⟨b, 3, none⟩) (gb_put (p := ⟨b, 2, none⟩) (gb_put (p := ⟨b, 1, none⟩) (gb_put (p := ⟨b, 0, none⟩) (gb_refl w _) (.inl rfl) u0) (.inl rfl) u1) (.inl rfl) u2) (.inl rfl) u3)⟩
end Go.Proofs.YtohliaellefhaaaDoor

/- Instructions in a row of the call's own; blocks that are apart by their types; what is read lies behind a bound. -/
namespace Go.Proofs.YtohliaellefhaaaDoor
open Go.RowKit
set_option linter.unusedVariables false
set_option maxRecDepth 100000

theorem infoIns : (Tryd.prog.info? 58).map (fun i => (i.zero, i.size, i.bytes)) = some (some (.agg #[.int .u8 0, .int .u64 0, .int .u64 0, .slice none 0 0]), 4, 48) := by kernel_rfl
abbrev Slot := I × Option Addr × Nat
def rowC (x : Slot) : List Value := [.int .u8 x.1.op.toNat, .int .u64 x.1.a, .int .u64 x.1.b, .slice x.2.1 x.1.l.length x.2.2]
def RowI (W : World) (base : Nat) (v : Value) (rows : List Slot) : Prop := W.ownsRow base 58 4 v rows.length (rows.flatMap rowC)
theorem own_own {W : World} {b b' : Nat} {e e' : TypeId} {s s' n n' : Nat} {v v' : Value} {xs xs' : List Value} (h : W.ownsRow b e s v n xs) (h' : W.ownsRow b' e' s' v' n' xs') (ht : e ≠ e') : v.ownBlock = none ∨ v.ownBlock ≠ v'.ownBlock := by
  rcases h.2 with ⟨rfl, _⟩ | ⟨g, cap, cur, rfl, _, hg, _⟩
  · exact .inl rfl
  · exact .inr (own_whole h' (show Whole W g e cur from hg) ht)
theorem own_far {W : World} {b : Nat} {e : TypeId} {s n q : Nat} {v : Value} {xs : List Value} {t : TypeId} {cs : Array Value} (h : W.ownsRow b e s v n xs) (hw : Whole W q t cs) (ht : t ≠ e) : v.ownBlock = none ∨ v.ownBlock ≠ some q := .inr (fun e2 => own_whole h hw ht e2.symm)
/-- append of a new block of one instruction. -/
theorem rowsI_new {w : World} {ops : Array Oper} {rest : List Oper} {o : Oper} {a : Act} {Q : Exit → Act → World → Prop} (hgd : o.guard = none) (s x : Operand)
    (ho : o.op = .call { callee := .builtin .append, args := #[s, x], argTypes := #[59, 59] })
    (B : Nat) (v : Value) (l : List Slot) (hs : a.eval s = v) (hr : RowI w B v l) (g : Nat) (r : Slot) (hx : a.eval x = .slice (some ⟨g, 0, none⟩) 1 1)
    (hg : Whole w g 58 (rowC r).toArray) (hb : l.length ≤ 1000) (hB : B ≤ w.heap.size)
    (h : ∀ v' w', RowI w' B v' (l ++ [r]) → w.grownBy w' v.ownBlock → wpList Tryd.prog ops Q rest (a.put o.dst v') w') : wpList Tryd.prog ops Q (o :: rest) a w := by
  obtain ⟨i0, hi0, hz0, hz1, hz2⟩ := info_parts infoIns
  refine wpList_append_own _ hgd s x _ ho B 58 i0 _ 4 48 Tryd.underlying59 hi0 hz0 hz1 hz2 rfl (by omega) v _ _ hs hr ⟨g, 0, none⟩ 1 1 (rowC r) hx rfl ?_ ?_ (by unfold maxLen; omega) (by omega) hB (fun v' w' h2 h3 _ => h v' w' ?_ h3)
  · intro j u hu
    rw [Go.WideShapes.add_plain, Nat.zero_add, hg.cell]
    simpa using hu
  · intro u hu
    unfold rowC at hu
    simp only [List.mem_cons, List.not_mem_nil, or_false] at hu
    rcases hu with rfl | rfl | rfl | rfl <;> rfl
  · unfold RowI
    rw [List.length_append, List.flatMap_append]
    simpa using h2
theorem flatI_get : ∀ (l : List Slot) (j : Nat) (x : Slot) (u : Nat), l[j]? = some x → u < 4 → (l.flatMap rowC)[j * 4 + u]? = (rowC x)[u]?
  | [], j, x, u, h, _ => by cases h
  | y :: l, 0, x, u, h, hu => by
    injection h with h
    subst h
    rw [List.flatMap_cons, Nat.zero_mul, Nat.zero_add, List.getElem?_append_left (by show u < 4; exact hu)]
  | y :: l, j + 1, x, u, h, hu => by
    rw [List.flatMap_cons, List.getElem?_append_right (by show 4 ≤ _; omega)]
    have e : (j + 1) * 4 + u - (rowC y).length = j * 4 + u := by show (j + 1) * 4 + u - 4 = _; omega
    rw [e]
    exact flatI_get l j x u h hu
/-- Instructions that lie behind a bound. -/
def InsF (lo : Nat) (w : World) (A : Option Addr) (l : List I) : Prop :=
  ∀ j i, l[j]? = some i → ∃ b off B c, A = some ⟨b, off, none⟩ ∧ lo ≤ b ∧ b < w.heap.size ∧ (w.cell? ⟨b, off + j * 4, none⟩ = some (.int .u8 i.op.toNat) ∧ w.cell? ⟨b, off + j * 4 + 1, none⟩ = some (.int .u64 i.a) ∧
    w.cell? ⟨b, off + j * 4 + 2, none⟩ = some (.int .u64 i.b) ∧ w.cell? ⟨b, off + j * 4 + 3, none⟩ = some (.slice B i.l.length c)) ∧ LiesL w B i.l ∧ ∀ a, B = some a → lo ≤ a.block
theorem InsF.ins {lo : Nat} {w : World} {A : Option Addr} {l : List I} (h : InsF lo w A l) : Ins w A l := fun j i hi => by
  obtain ⟨b, off, B, c, e, h1, h2, hk, hl, _⟩ := h j i hi
  exact ⟨b, off, B, c, e, h2, hk, hl⟩
theorem InsF.mono {lo lo' : Nat} {w : World} {A : Option Addr} {l : List I} (h : InsF lo w A l) (hle : lo' ≤ lo) : InsF lo' w A l := fun j i hi => by
  obtain ⟨b, off, B, c, e, h1, h2, hk, hl, hf⟩ := h j i hi
  exact ⟨b, off, B, c, e, by omega, h2, hk, hl, fun a ha => Nat.le_trans hle (hf a ha)⟩
theorem InsF.keep {lo : Nat} {w w' : World} {A : Option Addr} {l : List I} {q : Nat} (h : InsF lo w A l) (hg : w.grownBy w' (some q)) (hq : q < lo) : InsF lo w' A l := fun j i hi => by
  obtain ⟨b, off, B, c, e, h1, h2, ⟨k0, k1, k2, k3⟩, hl, hf⟩ := h j i hi
  have hc : ∀ o, w'.cell? ⟨b, o, none⟩ = w.cell? ⟨b, o, none⟩ := fun o => by
    unfold World.cell?
    rw [hg.block b h2 (by simp only [ne_eq, Option.some.injEq]; omega)]
  exact ⟨b, off, B, c, e, h1, Nat.lt_of_lt_of_le h2 hg.size, ⟨(hc _).trans k0, (hc _).trans k1, (hc _).trans k2, (hc _).trans k3⟩, Lies.keep hl hg (fun a ha => by have := hf a ha; omega), hf⟩
/-- What a row of instructions reads as. -/
theorem RowI.insF {W : World} {base : Nat} {v : Value} {rows : List Slot} (h : RowI W base v rows) (hl : ∀ x ∈ rows, LabT W x.2.1 x.1.l ∧ ∀ a, x.2.1 = some a → base ≤ a.block) : ∃ A c, v = .slice A rows.length c ∧ InsF base W A (rows.map (·.1)) := by
  rcases h.2 with ⟨rfl, h0⟩ | ⟨g, cap, cur, rfl, hb, hg, _, _, _, ht⟩
  · have : rows = [] := List.eq_nil_of_length_eq_zero h0
    subst this
    exact ⟨none, 0, rfl, fun j i hi => by cases hi⟩
  · refine ⟨some ⟨g, 0, none⟩, cap, rfl, fun j i hi => ?_⟩
    obtain ⟨x, hx, rfl⟩ : ∃ x, rows[j]? = some x ∧ x.1 = i := by
      rw [List.getElem?_map] at hi
      cases hx : rows[j]? with
      | none => rw [hx] at hi; cases hi
      | some x => rw [hx] at hi; injection hi with hi; exact ⟨x, rfl, hi⟩
    have hj := (List.getElem?_eq_some_iff.1 hx).1
    have key : ∀ u, u < 4 → W.cell? ⟨g, 0 + j * 4 + u, none⟩ = (rowC x)[u]? := fun u hu => by
      rw [cell_of_row W g (0 + j * 4 + u) cur _ _ hg, ← flatI_get rows j x u hx hu, ← ht, List.getElem?_take, if_pos (by omega)]
      simp
    obtain ⟨h1, h2⟩ := hl x (List.mem_of_getElem? hx)
    exact ⟨g, 0, x.2.1, x.2.2, rfl, hb, (Array.getElem?_eq_some_iff.1 hg).1, ⟨key 0 (by omega), key 1 (by omega), key 2 (by omega), key 3 (by omega)⟩, h1.lies, h2⟩
end Go.Proofs.YtohliaellefhaaaDoor

/- GetBody of a body's bytes. -/
namespace Go.Proofs.YtohliaellefhaaaDoor
open Go.RowKit
set_option linter.unusedVariables false
set_option maxRecDepth 100000

theorem take_snocG {α : Type} {l : List α} {k : Nat} {c : α} (h : l[k]? = some c) : l.take (k + 1) = l.take k ++ [c] := by
  rw [List.take_add_one, h]; rfl
/-- A body's bytes. -/
noncomputable def bodyL (l : List I) : List UInt8 := l.flatMap putL
theorem bodyL_snoc {l : List I} {k : Nat} {i : I} (h : l[k]? = some i) : bodyL (l.take (k + 1)) = bodyL (l.take k) ++ putL i := by
  unfold bodyL
  rw [take_snocG h, List.flatMap_append]
  simp
theorem bodyL_at {l : List I} {k : Nat} {i : I} (h : l[k]? = some i) : bodyL l = bodyL (l.take k) ++ (putL i ++ bodyL (l.drop (k + 1))) := by
  have e1 : l = l.take k ++ i :: l.drop (k + 1) := by
    obtain ⟨hj3, hj4⟩ := List.getElem?_eq_some_iff.1 h
    rw [← hj4, ← List.drop_eq_getElem_cons hj3, List.take_append_drop]
  conv => lhs; rw [e1]
  unfold bodyL
  rw [List.flatMap_append, List.flatMap_cons]
def lenOf : Value → Nat
  | .slice _ n _ => n
  | _ => 0
/-- How far GetBody has come; nest's block is the first of the call's own. -/
structure GB (w : World) (p : Nat) (l : List UInt8) (full : List I) (k0 k : Nat) (v : Value) (rows : List Slot) (st : List UInt8) (en : Bool) (W : World) : Prop where
  sc : Sc W p l k0
  gr : w.grownBy W (some p)
  row : RowI W w.heap.size v rows
  eq : rows.map (·.1) = full.take k
  labs : ∀ x ∈ rows, LabT W x.2.1 x.1.l ∧ ∀ a, x.2.1 = some a → w.heap.size ≤ a.block
  hp : p < w.heap.size
  tb : TbP p W
  hk : k ≤ full.length
  sl : st.length ≤ k
  st : Stand full k st en
section
variable {w : World} {p : Nat} {l : List UInt8} {full : List I} {k0 k : Nat} {v : Value} {rows : List Slot} {st : List UInt8} {en : Bool} {W W' : World}
theorem GB.size (h : GB w p l full k0 k v rows st en W) : w.heap.size ≤ W.heap.size := h.gr.size
theorem GB.len (h : GB w p l full k0 k v rows st en W) : rows.length = k := by
  have := congrArg List.length h.eq
  rw [List.length_map, List.length_take] at this
  have := h.hk
  omega
/-- A block that is no row of instructions and holds no labels is written. -/
theorem GB.put (h : GB w p l full k0 k v rows st en W) {q : Nat} (hg : W.grownBy W' (some q)) (hq : w.heap.size ≤ q) (h1 : v.ownBlock = none ∨ v.ownBlock ≠ some q) (h2 : ∀ x ∈ rows, ∀ a, x.2.1 = some a → some a.block ≠ some q) : GB w p l full k0 k v rows st en W' :=
  have hp := h.hp
  ⟨h.sc.grown hg (by simp only [ne_eq, Option.some.injEq]; omega) (fun g e => by injection e with e; omega), gb_before h.gr hg (fun g e => .inr (by injection e with e; omega)), World.ownsRow.kept h.row hg h1, h.eq,
    fun x hx => ⟨(h.labs x hx).1.keep hg (h2 x hx), (h.labs x hx).2⟩, h.hp, h.tb.grown hg (fun g e => by injection e with e; omega), h.hk, h.sl, h.st⟩
/-- A block of another type. -/
theorem GB.putT (h : GB w p l full k0 k v rows st en W) {q : Nat} {t : TypeId} {cs : Array Value} (hw : Whole W q t cs) (hg : W.grownBy W' (some q)) (hq : w.heap.size ≤ q) (t1 : t ≠ 58) (t2 : t ≠ 62) : GB w p l full k0 k v rows st en W' :=
  h.put hg hq (own_far h.row hw t1) (fun x hx => (h.labs x hx).1.apart hw t2)
theorem GB.below (h : GB w p l full k0 k v rows st en W) (hb : Below W.heap.size W W') : GB w p l full k0 k v rows st en W' :=
  ⟨h.sc.below hb, gb_trans h.gr (gb_of_below _ hb), World.ownsRow.kept h.row (gb_of_below none hb) (by cases v.ownBlock with
    | none => exact .inl rfl
    | some g => exact .inr (by simp)), h.eq, fun x hx => ⟨(h.labs x hx).1.keep (gb_of_below none hb) (fun a _ => by simp), (h.labs x hx).2⟩, h.hp, h.tb.grown (gb_of_below none hb) (fun g e => by cases e), h.hk, h.sl, h.st⟩
/-- A step of nest. -/
theorem GB.moved (h : GB w p l full k0 k v rows st en W) {nb : Nat} {vo : Value} {so st' : List UInt8} {en' : Bool} {cs : Array Value} (hm : Moved nb w.heap.size vo st' en' W W') (hr : Row W w.heap.size vo so) (hw : Whole W nb 111 cs) (hnb : w.heap.size ≤ nb) : GB w p l full k0 k v rows st en W' := by
  obtain ⟨v', Wm, h1, h2, h3, h4⟩ := hm
  have hm1 : GB w p l full k0 k v rows st en Wm := by
    have hlt := World.ownsRow.lt hr
    have hp := h.hp
    refine ⟨h.sc.grown h3 (fun e => by have := hlt p e.symm; omega) (fun g e => by have := hlt g e; omega), gb_before h.gr h3 (fun g e => .inr (hlt g e).1), World.ownsRow.kept h.row h3 (own_own h.row hr (by decide)), h.eq, fun x hx => ⟨(h.labs x hx).1.keep h3 (lab_own (h.labs x hx).1 hr (by decide)), (h.labs x hx).2⟩, h.hp, h.tb.grown h3 (fun g e => by have := hlt g e; omega), h.hk, h.sl, h.st⟩
  exact hm1.putT (hw.grown h3 (own_whole hr hw (by decide))) h4 hnb (by decide) (by decide)
theorem Moved.whole {nb base q : Nat} {vo : Value} {so st' : List UInt8} {en' : Bool} {t : TypeId} {cs cs' : Array Value} (hm : Moved nb base vo st' en' W W') (hr : Row W base vo so) (hn : Whole W nb 111 cs') (hw : Whole W q t cs) (t1 : t ≠ 5) (t2 : t ≠ 111) : Whole W' q t cs := by
  obtain ⟨v', Wm, h1, h2, h3, h4⟩ := hm
  have hq : q ≠ nb := hw.apart hn t2
  exact (hw.grown h3 (own_whole hr hw t1)).grown h4 (by simp only [ne_eq, Option.some.injEq]; exact hq)
theorem GB.got {k2 : Nat} (h : GB w p l full k0 k v rows st en W) (hs : Sc W' p l k2) (hg : W.grownBy W' (some p)) : GB w p l full k2 k v rows st en W' := by
  have hp := h.hp
  have hlt := World.ownsRow.lt h.row
  obtain ⟨A, cap, hw, _⟩ := h.sc
  exact ⟨hs, gb_trans h.gr hg, World.ownsRow.kept h.row hg (.inr (fun e => by have := hlt p e; omega)), h.eq, fun x hx => ⟨(h.labs x hx).1.keep hg ((h.labs x hx).1.apart hw (by decide)), (h.labs x hx).2⟩, h.hp, h.tb.self hg, h.hk, h.sl, h.st⟩
theorem LabT.moved {nb base : Nat} {vo : Value} {so st' : List UInt8} {en' : Bool} {cs' : Array Value} {A : Option Addr} {ls : List Int} (h : LabT W A ls) (hm : Moved nb base vo st' en' W W') (hr : Row W base vo so) (hn : Whole W nb 111 cs') : LabT W' A ls := by
  rcases h with h | ⟨g, cur, rfl, hw, ht⟩
  · exact .inl h
  · exact .inr ⟨g, cur, rfl, hm.whole hr hn hw (by decide) (by decide), ht⟩
theorem LabT.below {A : Option Addr} {ls : List Int} (h : LabT W A ls) (hb : Below W.heap.size W W') : LabT W' A ls := h.keep (gb_of_below none hb) (fun a _ => by simp)
/-- One more instruction is appended. -/
theorem GB.app (h : GB w p l full k0 k v rows st en W) {x : Slot} {v' : Value} {st' : List UInt8} {en' : Bool} (hx : full[k]? = some x.1) (hl : LabT W x.2.1 x.1.l ∧ ∀ a, x.2.1 = some a → w.heap.size ≤ a.block) (hr : RowI W' w.heap.size v' (rows ++ [x])) (hg : W.grownBy W' v.ownBlock)
    (hsl : st'.length ≤ k + 1) (hst : Stand full (k + 1) st' en') : GB w p l full k0 (k + 1) v' (rows ++ [x]) st' en' W' := by
  have hlt := World.ownsRow.lt h.row
  have hp := h.hp
  have hk := (List.getElem?_eq_some_iff.1 hx).1
  refine ⟨h.sc.grown hg (fun e => by have := hlt p e.symm; omega) (fun g e => by have := hlt g e; omega), gb_before h.gr hg (fun g e => .inr (hlt g e).1), hr, by rw [List.map_append, h.eq, take_snocG hx]; rfl, fun y hy => ?_, h.hp, h.tb.grown hg (fun g e => by have := hlt g e; omega), by omega, hsl, hst⟩
  rcases List.mem_append.1 hy with hy | hy
  · exact ⟨(h.labs y hy).1.keep hg (lab_own (h.labs y hy).1 h.row (by decide)), (h.labs y hy).2⟩
  · rw [List.mem_singleton] at hy
    subst hy
    exact ⟨hl.1.keep hg (lab_own hl.1 h.row (by decide)), hl.2⟩
end
/-- A row of instructions of the call's own; the labels of each lie behind the row's bound. -/
structure RowIL (W : World) (base : Nat) (v : Value) (rows : List Slot) : Prop where
  own : RowI W base v rows
  labs : ∀ x ∈ rows, LabT W x.2.1 x.1.l ∧ ∀ a, x.2.1 = some a → base ≤ a.block
theorem RowIL.nil (W : World) (base : Nat) : RowIL W base (.slice none 0 0) [] := ⟨World.ownsRow_nil W base _ 4, fun x hx => by cases hx⟩
theorem RowIL.lt {W : World} {base : Nat} {v : Value} {rows : List Slot} (h : RowIL W base v rows) : ∀ k, v.ownBlock = some k → base ≤ k ∧ k < W.heap.size := World.ownsRow.lt h.own
theorem RowIL.past {W W' : World} {base b : Nat} {v : Value} {rows : List Slot} (h : RowIL W base v rows) (hg : W.grownBy W' (some b)) (hb : b < base) : RowIL W' base v rows :=
  ⟨World.ownsRow.kept h.own hg (by
    cases hv : v.ownBlock with
    | none => exact .inl rfl
    | some k => exact .inr (by have := (World.ownsRow.lt h.own k hv).1; simp only [ne_eq, Option.some.injEq]; omega)),
   fun x hx => ⟨(h.labs x hx).1.keep hg (fun a ha => by have := (h.labs x hx).2 a ha; simp only [ne_eq, Option.some.injEq]; omega), (h.labs x hx).2⟩⟩
theorem RowIL.later {W W' : World} {base : Nat} {v : Value} {rows : List Slot} (h : RowIL W base v rows) (hb : Below W.heap.size W W') : RowIL W' base v rows :=
  ⟨World.ownsRow.kept h.own (gb_of_below none hb) (by cases v.ownBlock with
    | none => exact .inl rfl
    | some k => exact .inr (by simp)), fun x hx => ⟨(h.labs x hx).1.keep (gb_of_below none hb) (fun a _ => by simp), (h.labs x hx).2⟩⟩
theorem RowIL.mono {W : World} {base base' : Nat} {v : Value} {rows : List Slot} (h : RowIL W base v rows) (hb : base' ≤ base) : RowIL W base' v rows := by
  obtain ⟨⟨h1, h2⟩, h3⟩ := h
  refine ⟨⟨h1, ?_⟩, fun x hx => ⟨(h3 x hx).1, fun a ha => Nat.le_trans hb ((h3 x hx).2 a ha)⟩⟩
  rcases h2 with h2 | ⟨g, cap, cur, e, hg, r⟩
  · exact .inl h2
  · exact .inr ⟨g, cap, cur, e, Nat.le_trans hb hg, r⟩
/-- A row of another type grows. -/
theorem RowIL.beside {W W' : World} {base b : Nat} {e : TypeId} {s n : Nat} {v u : Value} {xs : List Value} {rows : List Slot} (h : RowIL W base v rows) (hr : W.ownsRow b e s u n xs) (hg : W.grownBy W' u.ownBlock) (t1 : 58 ≠ e) (t2 : 62 ≠ e) : RowIL W' base v rows :=
  ⟨World.ownsRow.kept h.own hg (own_own h.own hr t1), fun x hx => ⟨(h.labs x hx).1.keep hg (lab_own (h.labs x hx).1 hr t2), (h.labs x hx).2⟩⟩
theorem RowIL.insF {W : World} {base n c : Nat} {A : Option Addr} {rows : List Slot} (h : RowIL W base (.slice A n c) rows) : InsF base W A (rows.map (·.1)) := by
  obtain ⟨B, d, e, hi⟩ := h.own.insF h.labs
  injection e with e1 e2 e3
  rw [e1]
  exact hi
/-- What GetBody hands back. -/
def GotB (p : Nat) (l : List UInt8) (full : List I) (k : Nat) (w : World) (e : Ending) (w' : World) : Prop :=
  ∃ A c rows, e = .returned (.slice A full.length c) ∧ RowIL w' w.heap.size (.slice A full.length c) rows ∧ rows.map (·.1) = full ∧ Sc w' p l k ∧ w.grownBy w' (some p)
end Go.Proofs.YtohliaellefhaaaDoor
