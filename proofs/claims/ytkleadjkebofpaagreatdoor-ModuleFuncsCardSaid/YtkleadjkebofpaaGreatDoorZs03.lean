/- typesOf (made by gen/genTypes.py), float, Check, Of. -/
import Derived.Test.YtkleadjkebofpaaGreatDoorZs02
import Derived.Test.YtkleadjkebofpaaGreatDoorZs01
import Derived.OwnWalk
import Derived.RegionTactic
import Derived.Laws.BytesArg
import Derived.Lib.ValidLaws
import Derived.Lib.RuneCountTail
import Derived.Shelf.Unicode.DecodeSlow
import Derived.Lib.ValidAsc
import Derived.Deep.DeepMust
import Derived.Deep.RegionHeld3
import Derived.Lib.Strings
import Derived.Test.YtkleadjkebofpaaGreatDoorShelf
namespace Go.Proofs.YtkleadjkebofpaaGreatDoor
set_option linter.unusedVariables false
open Go.RowKit

end Go.Proofs.YtkleadjkebofpaaGreatDoor

/- An instruction as plain data; what a value and a box hold of it. -/
namespace Go.Proofs.YtkleadjkebofpaaGreatDoor
open Go.RowKit
set_option linter.unusedVariables false

structure I where
  op : UInt8
  a : Int
  b : Int
  l : List Int
abbrev I.n (i : I) : Nat := i.op.toNat
def cells32 (l : List Int) : List Value := l.map (.int .u32)
/-- Its numbers are what their kinds hold. -/
structure I.Ok (i : I) : Prop where
  a0 : 0 ≤ i.a
  a1 : i.a ≤ 18446744073709551615
  b0 : 0 ≤ i.b
  b1 : i.b ≤ 18446744073709551615
  l0 : ∀ c ∈ i.l, 0 ≤ c ∧ c ≤ 4294967295
abbrev insC (i : I) (A : Option Addr) (c : Nat) : Array Value := #[.int .u8 i.op.toNat, .int .u64 i.a, .int .u64 i.b, .slice A i.l.length c]
/-- A box of the function's own that holds it. -/
def BoxI (w W : World) (i : I) (A : Option Addr) (c : Nat) : Prop := Whole W w.heap.size 85 (insC i A c) ∧ Below w.heap.size w W
section
variable {w W W' : World} {i : I} {A : Option Addr} {c : Nat}
theorem BoxI.on (h : BoxI w W i A c) (hb : Below W.heap.size W W') : BoxI w W' i A c := ⟨h.1.below hb, h.2.trans (hb.mono h.2.size)⟩
theorem BoxI.drewN (h : BoxI w W i A c) (n : Nat) : BoxI w (W.drewN n) i A c := ⟨h.1, ⟨h.2.os, h.2.tape, h.2.output, h.2.size, h.2.block⟩⟩
theorem BoxI.lt (h : BoxI w W i A c) : w.heap.size < W.heap.size := h.1.lt
theorem BoxI.c0 (h : BoxI w W i A c) : W.cell? ⟨w.heap.size, 0, none⟩ = some (.int .u8 i.op.toNat) := h.1.cell 0
theorem BoxI.c1 (h : BoxI w W i A c) : W.cell? ⟨w.heap.size, 1, none⟩ = some (.int .u64 i.a) := h.1.cell 1
theorem BoxI.c2 (h : BoxI w W i A c) : W.cell? ⟨w.heap.size, 2, none⟩ = some (.int .u64 i.b) := h.1.cell 2
theorem BoxI.c3 (h : BoxI w W i A c) : W.cell? ⟨w.heap.size, 3, none⟩ = some (.slice A i.l.length c) := h.1.cell 3
end

end Go.Proofs.YtkleadjkebofpaaGreatDoor

/- Right: the program's and the reference's. (By gen/genRight.py.) -/
namespace Go.Proofs.YtkleadjkebofpaaGreatDoor
open Go.RowKit
set_option linter.unusedVariables false
set_option maxRecDepth 100000

end Go.Proofs.YtkleadjkebofpaaGreatDoor

/- wire.Size, wire.Indices, immediates: the bytes behind an opcode. (By gen/genPutl.py.) -/
namespace Go.Proofs.YtkleadjkebofpaaGreatDoor
open Go.RowKit
set_option linter.unusedVariables false
set_option maxRecDepth 100000

theorem cells32_get {l : List Int} {i : Nat} {c : Int} (h : l[i]? = some c) : (cells32 l)[i]? = some (.int .u32 c) := by simp [cells32, h]

theorem u8_of {a : Int} (h0 : 0 ≤ a) (h1 : a ≤ 255) : ((UInt8.ofNat a.toNat).toNat : Int) = a := by
  rw [UInt8.toNat_ofNat']
  omega
theorem BoxI.bel {w W : World} {i : I} {A : Option Addr} {c : Nat} (h : BoxI w W i A c) : Below w.heap.size w W := h.2
/-- What is held while numbers are written. -/
def Six (w : World) (i : I) (A : Option Addr) (c : Nat) (W : World) : Prop := BoxI w W i A c ∧ W.cell? ⟨w.heap.size, 1, none⟩ = some (.int .u64 i.a) ∧ W.cell? ⟨w.heap.size, 2, none⟩ = some (.int .u64 i.b) ∧ W.cell? ⟨w.heap.size, 3, none⟩ = some (.slice A i.l.length c)
theorem Six.of {w W : World} {i : I} {A : Option Addr} {c : Nat} (h : BoxI w W i A c) : Six w i A c W := ⟨h, h.c1, h.c2, h.c3⟩
theorem Six.on {w W W' : World} {i : I} {A : Option Addr} {c : Nat} (h : Six w i A c W) (hb : Below W.heap.size W W') : Six w i A c W' := .of (h.1.on hb)
theorem Six.past {w W W' : World} {i : I} {A : Option Addr} {c : Nat} (h : Six w i A c W) (hb : Below (w.heap.size + 1) W W') : Six w i A c W' :=
  .of ⟨(hb.block _ (Nat.lt_succ_self _)).trans h.1.1, h.1.2.trans (hb.mono (Nat.le_succ _))⟩

end Go.Proofs.YtkleadjkebofpaaGreatDoor

/- instr.Put. -/
namespace Go.Proofs.YtkleadjkebofpaaGreatDoor
open Go.RowKit
set_option linter.unusedVariables false
set_option maxRecDepth 100000

/-- A row of the call's own lies; where it lies nowhere it has no room. -/
theorem Row.liesN {w : World} {base : Nat} {v : Value} {xs : List UInt8} (h : Row w base v xs) : ∃ A c, v = .slice A xs.length c ∧ Lies w w.heap.size A (cells (nums xs)) ∧ (A = none → c = 0) ∧ xs.length ≤ c ∧ c ≤ maxLen := by
  have h' := h
  obtain ⟨h1, h2⟩ := h
  obtain ⟨A, c, e, h3, h4, h5, _⟩ := lies_own h'
  refine ⟨A, c, e, h5, fun hA => ?_, h3, h4⟩
  rcases h2 with ⟨e2, _⟩ | ⟨g, cap, cur, e2, _⟩
  · rw [e] at e2
    injection e2
  · rw [e] at e2
    injection e2 with e2
    rw [hA] at e2
    cases e2
theorem size_box (w : World) (o : Obj) : (w.alloc o).heap.size = w.heap.size + 1 := by simp
section
variable {w W W' : World} {i : I} {A : Option Addr} {c : Nat}
end
end Go.Proofs.YtkleadjkebofpaaGreatDoor

/- wire.GetItems[uint32], GetIndices of any bytes: numbers behind their number, in a row of the call's own; the labels of an instruction that was read. -/
namespace Go.Proofs.YtkleadjkebofpaaGreatDoor
open Go.RowKit
set_option linter.unusedVariables false
set_option maxRecDepth 100000

theorem info32 : (Tryz.prog.info? 31).map (fun i => (i.zero, i.size, i.bytes)) = some (some (.int .u32 0), 1, 4) := by kernel_rfl
/-- Labels: none, or the beginning of a block of their own. -/
def LabT (W : World) (A : Option Addr) (ls : List Int) : Prop := (A = none ∧ ls = []) ∨ ∃ g cur, A = some ⟨g, 0, none⟩ ∧ Whole W g 31 cur ∧ cur.toList.take ls.length = cells32 ls
theorem LabT.keep {W W' : World} {A : Option Addr} {ls : List Int} {row : Option Nat} (h : LabT W A ls) (hg : W.grownBy W' row) (hq : ∀ a, A = some a → some a.block ≠ row) : LabT W' A ls := by
  rcases h with h | ⟨g, cur, rfl, h, ht⟩
  · exact .inl h
  · exact .inr ⟨g, cur, rfl, h.grown hg (hq _ rfl), ht⟩
theorem LabT.lies {W : World} {A : Option Addr} {ls : List Int} (h : LabT W A ls) : Lies W W.heap.size A (cells32 ls) := by
  rcases h with ⟨rfl, rfl⟩ | ⟨g, cur, rfl, h, ht⟩
  · intro j v hv; simp [cells32] at hv
  · intro j v hv
    refine ⟨g, 0, rfl, h.lt, ?_⟩
    rw [h.cell]
    rw [← ht] at hv
    have hj : j < ls.length := by have := (List.getElem?_eq_some_iff.1 hv).1; rw [List.length_take] at this; omega
    rw [List.getElem?_take, if_pos hj] at hv
    simpa using hv
theorem LabT.apart {W : World} {A : Option Addr} {ls : List Int} (h : LabT W A ls) {q : Nat} {t : TypeId} {cs : Array Value} (hw : Whole W q t cs) (ht : t ≠ 31) : ∀ a, A = some a → some a.block ≠ some q := by
  rcases h with ⟨rfl, rfl⟩ | ⟨g, cur, rfl, h, _⟩
  · intro a e; cases e
  · intro a e
    injection e with e
    subst e
    simp only [ne_eq, Option.some.injEq]
    exact fun e => hw.apart h ht e.symm
theorem own_whole {W : World} {b : Nat} {e : TypeId} {s n q : Nat} {v : Value} {xs : List Value} {t : TypeId} {cs : Array Value} (h : W.ownsRow b e s v n xs) (hw : Whole W q t cs) (ht : t ≠ e) : some q ≠ v.ownBlock := by
  rcases h.2 with ⟨rfl, _⟩ | ⟨g, cap, cur, rfl, _, hg, _⟩
  · simp [Value.ownBlock]
  · simp only [Value.ownBlock, ne_eq, Option.some.injEq]
    exact hw.apart (show Whole W g e cur from hg) ht
/-- Numbers in a row of the call's own. -/
def Row32 (W : World) (base : Nat) (v : Value) (acc : List Int) : Prop := W.ownsRow base 31 1 v acc.length (cells32 acc)
theorem Row32.nil (W : World) (base : Nat) : Row32 W base (.slice none 0 0) [] := World.ownsRow_nil W base _ 1
theorem Row32.past {W W' : World} {base b : Nat} {v : Value} {acc : List Int} (h : Row32 W base v acc) (hg : W.grownBy W' (some b)) (hb : b < base) : Row32 W' base v acc :=
  World.ownsRow.kept h hg (by
    cases hv : v.ownBlock with
    | none => exact .inl rfl
    | some k => exact .inr (by have := (World.ownsRow.lt h k hv).1; simp only [ne_eq, Option.some.injEq]; omega))
/-- What a row reads as. -/
theorem Row32.labT {W : World} {base : Nat} {v : Value} {acc : List Int} (h : Row32 W base v acc) : ∃ A c, v = .slice A acc.length c ∧ LabT W A acc ∧ ∀ a, A = some a → base ≤ a.block := by
  rcases h.2 with ⟨rfl, h0⟩ | ⟨g, cap, cur, rfl, hb, hg, _, _, _, ht⟩
  · have : acc = [] := List.eq_nil_of_length_eq_zero h0
    subst this
    exact ⟨none, 0, rfl, .inl ⟨rfl, rfl⟩, fun a e => by cases e⟩
  · exact ⟨some ⟨g, 0, none⟩, cap, rfl, .inr ⟨g, cur, rfl, hg, by rw [Nat.mul_one] at ht; exact ht⟩, fun a e => by injection e with e; subst e; exact hb⟩
/-- append of a new block of one number. -/
theorem row32_new {w : World} {ops : Array Oper} {rest : List Oper} {o : Oper} {a : Act} {Q : Exit → Act → World → Prop} (hgd : o.guard = none) (s x : Operand)
    (ho : o.op = .call { callee := .builtin .append, args := #[s, x], argTypes := #[24, 24] })
    (B : Nat) (v : Value) (acc : List Int) (hs : a.eval s = v) (hr : Row32 w B v acc) (g : Nat) (y : Int) (hx : a.eval x = .slice (some ⟨g, 0, none⟩) 1 1)
    (hg : Whole w g 31 #[.int .u32 y]) (hb : acc.length ≤ 10000) (hB : B ≤ w.heap.size)
    (h : ∀ v' w', Row32 w' B v' (acc ++ [y]) → w.grownBy w' v.ownBlock → wpList Tryz.prog ops Q rest (a.put o.dst v') w') : wpList Tryz.prog ops Q (o :: rest) a w := by
  obtain ⟨i0, hi0, hz0, hz1, hz2⟩ := info_parts info32
  refine wpList_append_own _ hgd s x _ ho B 31 i0 _ 1 4 Tryz.underlying24 hi0 hz0 hz1 hz2 rfl (by omega) v _ _ hs hr ⟨g, 0, none⟩ 1 1 [.int .u32 y] hx rfl ?_ ?_ (by unfold maxLen; omega) (by omega) hB (fun v' w' h2 h3 _ => h v' w' ?_ h3)
  · intro j u hu
    rw [Go.WideShapes.add_plain, Nat.zero_add, hg.cell]
    simpa using hu
  · intro u hu
    simp only [List.mem_cons, List.not_mem_nil, or_false] at hu
    subst hu
    rfl
  · unfold Row32
    rw [List.length_append]
    unfold cells32 at *
    rw [List.map_append]
    simpa using h2

section
variable {w W W' : World} {p : Nat} {l : List UInt8} {k k' : Nat} {acc : List Int} {x : Int} {v v' : Value}
end
end Go.Proofs.YtkleadjkebofpaaGreatDoor

/- The scanner's At and Int; getOp, getBlock, getNumber, wire.Nought of bytes that are right. -/
namespace Go.Proofs.YtkleadjkebofpaaGreatDoor
open Go.RowKit
set_option linter.unusedVariables false
set_option maxRecDepth 100000

/-- The tables lie below p, and nothing there has turned. -/
def TbP (p : Nat) (w : World) : Prop := ∃ W0, Tabs W0 ∧ W0.heap.size ≤ p ∧ Below W0.heap.size W0 w
theorem TbP.of {p : Nat} {w : World} (h : Tabs w) (hp : w.heap.size ≤ p) : TbP p w := ⟨w, h, hp, Below.refl _ _⟩
theorem TbP.grown {p : Nat} {w w' : World} {row : Option Nat} (h : TbP p w) (hg : w.grownBy w' row) (hr : ∀ g, row = some g → p ≤ g) : TbP p w' := by
  obtain ⟨W0, h1, h2, h3⟩ := h
  exact ⟨W0, h1, h2, Below.grown h3 hg h3.size (fun g e => Nat.le_trans h2 (hr g e))⟩
theorem TbP.below {p B : Nat} {w w' : World} (h : TbP p w) (hb : Below B w w') (hB : p ≤ B) : TbP p w' := by
  obtain ⟨W0, h1, h2, h3⟩ := h
  exact ⟨W0, h1, h2, h3.trans (hb.mono (Nat.le_trans h2 hB))⟩
end Go.Proofs.YtkleadjkebofpaaGreatDoor

/- instr.Get of an instruction's bytes. (By gen/genGet.py.) -/
namespace Go.Proofs.YtkleadjkebofpaaGreatDoor
open Go.RowKit
set_option linter.unusedVariables false
set_option maxRecDepth 100000

theorem Lies.keep {W W' : World} {A : Option Addr} {vs : List Value} {q : Nat} (h : Lies W W.heap.size A vs) (hg : W.grownBy W' (some q)) (hq : ∀ a, A = some a → a.block ≠ q) : Lies W' W'.heap.size A vs := fun j v hv => by
  obtain ⟨b, off, rfl, hb, hc⟩ := h j v hv
  refine ⟨b, off, rfl, Nat.lt_of_lt_of_le hb hg.size, ?_⟩
  have hne : b ≠ q := hq _ rfl
  rw [← hc]
  unfold World.cell?
  rw [hg.block b hb (by simpa using hne)]
section
variable {w : World} {p : Nat} {l : List UInt8} {H2 : Nat} {A : Option Addr} {ls : List Int} {k k' : Nat} {v0 v1 v2 v3 : Value} {W W' : World}
end
end Go.Proofs.YtkleadjkebofpaaGreatDoor

/- A block of one, two, four cells, all written. -/
namespace Go.Proofs.YtkleadjkebofpaaGreatDoor
open Go.RowKit
set_option linter.unusedVariables false

theorem put1 {w : World} {b : Nat} {t : TypeId} {x0 u0 : Value} (hb : Whole w b t #[x0]) : Whole (w.setCell ⟨b, 0, none⟩ u0) b t #[u0] ∧ w.grownBy (w.setCell ⟨b, 0, none⟩ u0) (some b) := ⟨(hb.put 0 u0), (gb_put (p := ⟨b, 0, none⟩) (gb_refl w _) (.inl rfl) u0)⟩
theorem put2 {w : World} {b : Nat} {t : TypeId} {x0 x1 u0 u1 : Value} (hb : Whole w b t #[x0, x1]) : Whole ((w.setCell ⟨b, 0, none⟩ u0).setCell ⟨b, 1, none⟩ u1) b t #[u0, u1] ∧ w.grownBy ((w.setCell ⟨b, 0, none⟩ u0).setCell ⟨b, 1, none⟩ u1) (some b) := ⟨((hb.put 0 u0).put 1 u1), (gb_put (p := ⟨b, 1, none⟩) (gb_put (p := ⟨b, 0, none⟩) (gb_refl w _) (.inl rfl) u0) (.inl rfl) u1)⟩
end Go.Proofs.YtkleadjkebofpaaGreatDoor

/- abort.Value of a function that ends well, whatever it hands back: []byte. Value of one that aborts. -/
namespace Go.Proofs.YtkleadjkebofpaaGreatDoor
open Go.RowKit
set_option linter.unusedVariables false
set_option maxRecDepth 100000

theorem cfVBy (cap : Array Value) (w : World) : (callFunc 16 cap).run Tryz.prog w = .ok (.enter 16 cap) w := by kernel_rfl
section
variable {T : (Option Addr × Nat × Nat) → World → Prop}
/-- Value's own closure: what the step hands back lies in its cell. -/
theorem valClosBy {g : FuncId} {cap : Array Value} {b1 b4 q : Nat} {w : World} {z : Array Value} (hz : z.size = 1) (hcf : ∀ w : World, (callFunc g cap).run Tryz.prog w = .ok (.enter g cap) w)
    (h1 : Whole w b1 64 #[.func (.func g) #[] cap]) (h4 : Whole w b4 45 #[.slice none 0 0]) (hb : q < b4) (hT : ∀ x W W', T x W → W.grownBy W' (some b4) → T x W')
    (h : Calls Tryz.prog g cap w fun e w' => ∃ x, e = .returned (.slice x.1 x.2.1 x.2.2) ∧ T x w' ∧ w.grownBy w' (some q)) :
    Calls Tryz.prog 16 #[.pointer (some ⟨b1, 0, none⟩), .pointer (some ⟨b4, 0, none⟩)] w fun e w' =>
      e = .returned (.tuple #[]) ∧ ∃ x, T x w' ∧ Whole w' b4 45 #[.slice x.1 x.2.1 x.2.2] ∧ ∃ w1, w.grownBy w1 (some q) ∧ w1.grownBy w' (some b4) := by
  have hnil : ∀ w : World, (binOp BinOp.neq 64 (.func (.func g) #[] cap) .nilFunc).run Tryz.prog w = .ok (.bool true) w := fun _ => by kernel_rfl
  have c1 := h1.cell 0
  simp only [List.getElem?_toArray, List.getElem?_cons_zero] at c1
  have HH := Lib.hid h
  have H4 := Lib.hid h4
  have HT := Lib.hid hT
  clear h h1 h4 hT
  go_enter Tryz.func16, Tryz.ntmps16
  go_wp2_with fail
  refine HH.out.mono ?_
  rintro e w1 ⟨x, rfl, hs, hg⟩
  have HW := H4.out.grown hg (by simp only [ne_eq, Option.some.injEq]; omega)
  have k0 := HW.cell 0
  have f0 := HW.frozen 0
  simp only [List.getElem?_toArray, List.getElem?_cons_zero] at k0
  obtain ⟨p1, p2⟩ := put1 (u0 := .slice x.1 x.2.1 x.2.2) HW
  have F : Hid (T x (w1.setCell ⟨b4, 0, none⟩ (.slice x.1 x.2.1 x.2.2))) := HT.out _ _ _ hs p2
  have P1 := Lib.hid p1
  have P2 := Lib.hid p2
  have HG := Lib.hid hg
  clear p1 p2 hs hg HW hcf
  go_wp2_with fail
  go_end0
  exact ⟨rfl, x, F.out, P1.out, w1, HG.out, P2.out⟩
/-- What Value's closure leaves behind, seen from Value's beginning. -/
structure VSBy (T : (Option Addr × Nat × Nat) → World → Prop) (w : World) (q : Nat) (x : (Option Addr × Nat × Nat)) (w1 : World) : Prop where
  kept : T x w1
  grown : w.grownBy w1 (some q)
  val : Whole w1 (w.heap.size + 2) 45 #[.slice x.1 x.2.1 x.2.2]
  r2 : Whole w1 (w.heap.size + 1) 60 #[.int .i64 0, .int .i64 0]
/-- The world in which Value calls Out. -/
def vWorldBy (g : FuncId) (cap : Array Value) (w : World) : World :=
  ((w.alloc (.cells #[.func (.func g) #[] cap] 64)).alloc (.cells #[.int .i64 0, .int .i64 0] 60)).alloc (.cells #[.slice none 0 0] 45)
theorem vWorld_factsBy (g : FuncId) (cap : Array Value) (w : World) : (vWorldBy g cap w).heap.size = w.heap.size + 3 ∧ Whole (vWorldBy g cap w) w.heap.size 64 #[.func (.func g) #[] cap] ∧
    Whole (vWorldBy g cap w) (w.heap.size + 1) 60 #[.int .i64 0, .int .i64 0] ∧
    Whole (vWorldBy g cap w) (w.heap.size + 2) 45 #[.slice none 0 0] ∧ Below w.heap.size w (vWorldBy g cap w) := by
  have b1 := Whole.made w 64 #[.func (.func g) #[] cap]
  have b3 := Whole.made (w.alloc (.cells #[.func (.func g) #[] cap] 64)) 60 #[.int .i64 0, .int .i64 0]
  have b4 := Whole.made ((w.alloc (.cells #[.func (.func g) #[] cap] 64)).alloc (.cells #[.int .i64 0, .int .i64 0] 60)) 45 #[.slice none 0 0]
  simp only [World.size_alloc] at b3 b4
  exact ⟨by simp [vWorldBy], (b1.alloc _).alloc _, b3.alloc _, b4,
    (((Below.refl _ _).alloc (Nat.le_refl _) _).alloc (by simp) _).alloc (by simp; omega) _⟩
theorem value_outBy {g : FuncId} {cap : Array Value} {q : Nat} {w : World} (hcf : ∀ w : World, (callFunc g cap).run Tryz.prog w = .ok (.enter g cap) w) (hq : q < w.heap.size)
    (hT : ∀ x W W' b, w.heap.size ≤ b → b < w.heap.size + 4 → T x W → W.grownBy W' (some b) → T x W')
    (h : ∀ W, Below w.heap.size w W → w.heap.size + 4 ≤ W.heap.size → Calls Tryz.prog g cap W fun e w' => ∃ x, e = .returned (.slice x.1 x.2.1 x.2.2) ∧ T x w' ∧ W.grownBy w' (some q)) :
    Calls Tryz.prog 15 #[.func (.func 16) #[] #[.pointer (some ⟨w.heap.size, 0, none⟩), .pointer (some ⟨w.heap.size + 2, 0, none⟩)]] (vWorldBy g cap w) fun e w' => e = .returned (.agg #[.int .i64 0, .int .i64 0]) ∧ ∃ x, VSBy T w q x w' := by
  obtain ⟨hz, b1, b3, b4, hbe⟩ := vWorld_factsBy g cap w
  have b5 := Whole.made (vWorldBy g cap w) 60 #[.int .i64 0, .int .i64 0]
  have hbe2 : Below w.heap.size w ((vWorldBy g cap w).alloc (.cells #[.int .i64 0, .int .i64 0] 60)) := hbe.alloc (by omega) _
  have hc := valClosBy (T := T) (z := #[.slice none 0 0]) rfl hcf (b1.alloc (.cells #[.int .i64 0, .int .i64 0] 60)) (b4.alloc _) (by omega : q < w.heap.size + 2) (fun x W W' => hT x W W' _ (by omega) (by omega)) (h _ hbe2 (by rw [size_box]; omega))
  refine (out_any _ _ 0 0 (vWorldBy g cap w) (fun w1 => (∃ x, VSBy T w q x w1) ∧ Whole w1 (vWorldBy g cap w).heap.size 60 #[.int .i64 0, .int .i64 0]) (cfVBy _) (hc.mono ?_) (fun _ h => h.2)).mono ?_
  · rintro e w' ⟨rfl, x, hs, hv, w1, hg1, hg2⟩
    have hz2 : w.heap.size + 4 ≤ w1.heap.size := by have := hg1.size; simp only [World.size_alloc] at this; omega
    refine ⟨.inl ⟨rfl, rfl, rfl⟩, ⟨x, hs, ?_, hv, ?_⟩, ?_⟩
    · exact gb_before (gb_trans (gb_of_below (some q) hbe2) hg1) hg2 (fun g e => .inr (by injection e with e; omega))
    · exact ((b3.alloc _).grown hg1 (by simp only [ne_eq, Option.some.injEq]; omega)).grown hg2 (by simp only [ne_eq, Option.some.injEq]; omega)
    · exact (b5.grown hg1 (by simp only [ne_eq, Option.some.injEq]; omega)).grown hg2 (by simp only [ne_eq, Option.some.injEq]; omega)
  · rintro e w' ⟨rfl, w1, ⟨⟨x, hs⟩, _⟩, hg⟩
    rw [hz] at hg
    exact ⟨rfl, x, hT x _ _ _ (by omega) (by omega) hs.kept hg, gb_before hs.grown hg (fun g e => .inr (by injection e with e; omega)), hs.val.grown hg (by simp only [ne_eq, Option.some.injEq]; omega), hs.r2.grown hg (by simp only [ne_eq, Option.some.injEq]; omega)⟩

set_option maxHeartbeats 800000 in
/-- Value of a function that ends well. -/
theorem valueBy_ok {g : FuncId} {cap : Array Value} {q : Nat} {w : World} (hcf : ∀ w : World, (callFunc g cap).run Tryz.prog w = .ok (.enter g cap) w) (hq : q < w.heap.size)
    (hT : ∀ x W W' b, w.heap.size ≤ b → b < w.heap.size + 4 → T x W → W.grownBy W' (some b) → T x W')
    (h : ∀ W, Below w.heap.size w W → w.heap.size + 4 ≤ W.heap.size → Calls Tryz.prog g cap W fun e w' => ∃ x, e = .returned (.slice x.1 x.2.1 x.2.2) ∧ T x w' ∧ W.grownBy w' (some q)) :
    Calls Tryz.prog 12 #[.func (.func g) #[] cap] w fun e w' => ∃ x, e = .returned (.tuple #[.slice x.1 x.2.1 x.2.2, .agg #[.int .i64 0, .int .i64 0]]) ∧ T x w' ∧ w.grownBy w' (some q) := by
  have hv := value_outBy hcf hq hT h
  unfold vWorldBy at hv
  have HV := Lib.hid hv
  have HT := Lib.hid hT
  have hmf : ∀ (fn : Fn) (first cap : Array Value) (w : World), (Instr.makeFunc fn first cap).run Tryz.prog w = .ok (.func fn first cap) w := fun _ _ _ _ => rfl
  clear h hv hcf hT
  go_enter Tryz.func12, Tryz.ntmps12
  go_wp2_with (go_at_call 15; go_must (refine HV.out.mono ?_; rintro e w2 ⟨rfl, x, hl⟩; have k0 := fun o => (hl.val.alloc o).cell 0; have f8 := fun o => (hl.r2.alloc o).frozen 0; have f9 := fun o => (hl.r2.alloc o).frozen 1; have m8 := fun o => (hl.r2.alloc o).cell 0; have m9 := fun o => (hl.r2.alloc o).cell 1; simp only [List.getElem?_toArray, List.getElem?_cons_zero, List.getElem?_cons_succ] at k0 m8 m9; have hz := hl.grown.size; have HL := Lib.hid hl; clear hl))
  obtain ⟨p2, g2⟩ := put2 (u0 := .int .i64 0) (u1 := .int .i64 0) (HL.out.r2.alloc (.cells #[.int .i64 0, .int .i64 0] 60))
  have q8 := p2.cell 0
  have q9 := p2.cell 1
  simp only [List.getElem?_toArray, List.getElem?_cons_zero, List.getElem?_cons_succ] at q8 q9
  refine bodyPost_ret (v := .tuple #[.slice x.1 x.2.1 x.2.2, .agg #[.int .i64 0, .int .i64 0]]) (by simp [results, Tryz.results12, go_sem, q8, q9]) rfl ⟨x, rfl, ?_, ?_⟩
  · exact HT.out _ _ _ _ (by omega) (by omega) (HT.out _ _ _ w.heap.size (Nat.le_refl _) (by omega) HL.out.kept (gb_alloc (gb_refl _ _) _)) g2
  · exact gb_before (gb_alloc HL.out.grown _) g2 (fun g e => .inr (by injection e with e; omega))
end
end Go.Proofs.YtkleadjkebofpaaGreatDoor

/- A small number's bytes. -/
namespace Go.Proofs.YtkleadjkebofpaaGreatDoor
set_option linter.unusedVariables false

end Go.Proofs.YtkleadjkebofpaaGreatDoor

/- Few laws that every layer wants: strings of bytes that lie somewhere, boxes, fields; wire.Size. -/
namespace Go.Proofs.YtkleadjkebofpaaGreatDoor
open Go.RowKit
set_option linter.unusedVariables false
set_option maxRecDepth 100000

theorem nb_of {a : Nat} {b : Int} {c : Bool} (h : decide ((a : Int) ≠ b) = c) : ((a : Int) != b) = c := by rw [← h]; by_cases e : (a : Int) = b <;> simp [bne, e]
theorem zb_of {a : Int} {c : Bool} (h : decide (a ≠ 0) = c) : (a != 0) = c := by rw [← h]; by_cases e : a = 0 <;> simp [bne, e]
theorem S_beqM (a b : List UInt8) : ((S a).toList == (S b).toList) = decide (a = b) := by rw [S_toList, S_toList]; by_cases h : a = b <;> simp [h]
/-- A block of bytes that reads as it was made, marked or not. -/
theorem lies_made (w : World) (xs : List UInt8) (fz : Nat × Nat) : Lies (w.alloc (.cells (cells (nums xs)).toArray 5 fz)) (w.heap.size + 1) (some ⟨w.heap.size, 0, none⟩) (cells (nums xs)) := fun i v hv => by
  refine ⟨w.heap.size, 0, rfl, by omega, ?_⟩
  rw [Nat.zero_add, cell_of_row _ w.heap.size i _ _ fz (heap_alloc_new w _)]
  simpa using hv
theorem made_2 (w : World) (o : Obj) (t : TypeId) (cs : Array Value) : Whole ((w.alloc o).alloc (.cells cs t)) (w.heap.size + 1) t cs := by
  have h := Whole.made (w.alloc o) t cs
  rwa [size_box] at h
/-- string(b) of whatever lies. -/
theorem str_any {w : World} {B : Nat} {A : Option Addr} {o : List UInt8} (h : Lies w B A (cells (nums o))) (c : Nat) :
    ∀ dst, Tryz.prog.underlying dst = some .string → (convert 45 dst (.slice A o.length c)).run Tryz.prog w = .ok (.string (S o)) w := by
  by_cases h0 : 0 < (nums o).length
  · have := str_lies h h0 c Tryz.underlying45 Tryz.underlying5
    rw [strOfNums_nums, nums_length] at this
    exact this
  · have ho : o = [] := List.eq_nil_of_length_eq_zero (by rw [nums_length] at h0; omega)
    subst ho
    intro dst hd
    rw [run_convert_bytes_string w _ dst 5 _ _ c Tryz.underlying45 Tryz.underlying5 hd]
    have e : S [] = ByteArray.empty := rfl
    rw [e]
    cases A <;> simp [Conv.bytesToString, loadCells]
    all_goals rfl
/-- Bytes that lie somewhere in this world; whose slice is nil only without room. -/
structure Pc (A : Option Addr) (c : Nat) (l : List UInt8) (w : World) : Prop where
  lies : Lies w w.heap.size A (cells (nums l))
  nil : A = none → c = 0
theorem Pc.below {A : Option Addr} {c : Nat} {l : List UInt8} {w w' : World} (h : Pc A c l w) (hb : Below w.heap.size w w') : Pc A c l w' := ⟨(h.lies.below hb (Nat.le_refl _)).more hb.size, h.nil⟩
theorem Pc.from {A : Option Addr} {c : Nat} {l : List UInt8} {w w' : World} {B : Nat} (h : Lies w B A (cells (nums l))) (hn : A = none → c = 0) (hB : B ≤ w.heap.size) (hb : Below w.heap.size w w') : Pc A c l w' := ⟨(h.below hb hB).more (Nat.le_trans hB hb.size), hn⟩
theorem Row.pc {w : World} {B : Nat} {v : Value} {xs : List UInt8} (h : Row w B v xs) : ∃ A c, v = .slice A xs.length c ∧ Pc A c xs w := by
  have h' := h
  obtain ⟨h1, h2⟩ := h
  obtain ⟨A, c, e, h3, h4, h5, _⟩ := lies_own h'
  refine ⟨A, c, e, h5, fun hA => ?_⟩
  rcases h2 with ⟨e2, _⟩ | ⟨g, cap, cur, e2, _⟩
  · rw [e] at e2
    injection e2
  · rw [e, hA] at e2
    injection e2 with e3
    cases e3
theorem Pc.room {A : Option Addr} {c : Nat} {l : List UInt8} {w : World} (h : Pc A c l w) : A = none → c = 0 := h.nil
end Go.Proofs.YtkleadjkebofpaaGreatDoor

/- Strings of bytes: what elder texts on names import. -/
namespace Go.Proofs.YtkleadjkebofpaaGreatDoor
set_option linter.unusedVariables false
end Go.Proofs.YtkleadjkebofpaaGreatDoor

/- What sign bytes begin with, as lists of bytes: the encoding of a number, the first sign, how many. No program here. -/
namespace Go.Proofs.YtkleadjkebofpaaGreatDoor
set_option linter.unusedVariables false
open Go.Lib

/-- The encoding of a number; none, if it is no sign. -/
def bytesN (c : Nat) : List UInt8 :=
  if 1114111 < c ∨ (55296 ≤ c ∧ c ≤ 57343) then []
  else if c < 128 then [UInt8.ofNat c]
  else if c < 2048 then [UInt8.ofNat (192 + c / 64), UInt8.ofNat (128 + c % 64)]
  else if c < 65536 then [UInt8.ofNat (224 + c / 4096), UInt8.ofNat (128 + c / 64 % 64), UInt8.ofNat (128 + c % 64)]
  else [UInt8.ofNat (240 + c / 262144), UInt8.ofNat (128 + c / 4096 % 64), UInt8.ofNat (128 + c / 64 % 64), UInt8.ofNat (128 + c % 64)]
def bytesZ (c : Int) : List UInt8 := if c < 0 then [] else bytesN c.toNat

/-- The number that so many bytes would encode. -/
def val (n : Nat) (l : List UInt8) : Nat :=
  if n = 1 then (l.getD 0 0).toNat
  else if n = 2 then (l.getD 0 0).toNat % 32 * 64 + (l.getD 1 0).toNat % 64
  else if n = 3 then ((l.getD 0 0).toNat % 16 * 64 + (l.getD 1 0).toNat % 64) * 64 + (l.getD 2 0).toNat % 64
  else (((l.getD 0 0).toNat % 8 * 64 + (l.getD 1 0).toNat % 64) * 64 + (l.getD 2 0).toNat % 64) * 64 + (l.getD 3 0).toNat % 64
section
variable (l : List UInt8)
end
end Go.Proofs.YtkleadjkebofpaaGreatDoor

/- The first sign by the numbers; how many signs. No program here. -/
namespace Go.Proofs.YtkleadjkebofpaaGreatDoor
set_option linter.unusedVariables false
open Go.Lib
set_option maxRecDepth 100000

end Go.Proofs.YtkleadjkebofpaaGreatDoor

/- creelref03.Bytes. -/
namespace Go.Proofs.YtkleadjkebofpaaGreatDoor
set_option linter.unusedVariables false
open Go.RowKit

def BytesOut (c : Int) (w : World) (e : Ending) (w' : World) : Prop := e = .returned (.string (S (bytesZ c))) ∧ (w' = w ∨ ∃ o, w' = w.alloc o)
theorem BytesOut.below {c : Int} {w w' : World} {e : Ending} (h : BytesOut c w e w') : Below w.heap.size w w' := by
  rcases h.2 with rfl | ⟨o, rfl⟩
  · exact Below.refl _ _
  · exact (Below.refl _ _).alloc (Nat.le_refl _) _
end Go.Proofs.YtkleadjkebofpaaGreatDoor

/- creelref03.First. -/
namespace Go.Proofs.YtkleadjkebofpaaGreatDoor
set_option linter.unusedVariables false
open Go.RowKit

/-- The number out of the first byte's bits and the bytes 1 to k. -/
def part (base : Nat) (l : List UInt8) : Nat → Nat
  | 0 => base
  | k + 1 => part base l k * 64 + (l.getD (k + 1) 0).toNat % 64
theorem two {B : Nat} {a w1 w2 : World} (h : Below B a w1) (hB : B ≤ a.heap.size) (k : Below w1.heap.size w1 w2) : Below B a w2 := h.trans (k.mono (Nat.le_trans hB h.size))
end Go.Proofs.YtkleadjkebofpaaGreatDoor

/- creelref03.Count. -/
namespace Go.Proofs.YtkleadjkebofpaaGreatDoor
set_option linter.unusedVariables false
open Go.RowKit Go.Lib

theorem ret_val {k : IntKind} {a b : Int} (h : a = b) : Ending.returned (.int k a) = .returned (.int k b) := by rw [h]

end Go.Proofs.YtkleadjkebofpaaGreatDoor

/- utf.First, utf.Count, utf.Check over the library's contracts. -/
namespace Go.Proofs.YtkleadjkebofpaaGreatDoor
set_option linter.unusedVariables false
set_option maxRecDepth 100000
open Go.RowKit Go.Lib

/-- The two tables of unicode/utf8 hold what they are laid with. -/
def TabsU (w : World) : Prop := Lib.Utf8Tabs 0 1 w
theorem TabsU.below {w wr : World} (h : TabsU w) (hb : Below w.heap.size w wr) : TabsU wr := Utf8Tabs_below h hb
theorem TabsU.on {B w wr : World} (h : TabsU B) (hB : Below B.heap.size B w) (hb : Below w.heap.size w wr) : TabsU wr := (h.below hB).below hb

theorem valid_any (l : List UInt8) (w : World) (hl : l.length ≤ 40000000) (hT : TabsU w) : Calls Tryz.prog 101 #[.string (S l)] w fun e w' => e = .returned (.bool (validD l)) ∧ Below w.heap.size w w' := by
  have h := Any.utf8_ValidString Tryz.lays196 (S l) w (by rw [S_size]; omega) hT
  rw [S_list] at h
  exact h
/-- api.ErrLong is 13, api.ErrUTF 4, api.OK 0. -/
def checkZ (l : List UInt8) : Int := if 200 < l.length then 13 else if validD l = true then 0 else 4
theorem checkU_any (l : List UInt8) (w : World) (hl : l.length ≤ 40000000) (hT : TabsU w) : Calls Tryz.prog 74 #[.string (S l)] w fun e w' => e = .returned (.int .i64 (checkZ l)) ∧ Below w.heap.size w w' := by
  have hs : (S l).size = l.length := S_size l
  by_cases h2 : 200 < l.length
  · have e : checkZ l = 13 := by unfold checkZ; rw [if_pos h2]
    have HE := Lib.hid e
    have hs2 : 200 < (S l).size := by omega
    clear e hs
    go_enter Tryz.func74, Tryz.ntmps74
    go_wp2
    go_ret
    exact ⟨ret_val HE.out.symm, Below.refl _ _⟩
  · have hd : decide ((200 : Int) < ((S l).size : Int)) = false := by simp; omega
    clear hs
    by_cases hv : validD l = true
    · have e : checkZ l = 0 := by unfold checkZ; rw [if_neg h2, if_pos hv]
      have HE := Lib.hid e
      clear e
      go_enter Tryz.func74, Tryz.ntmps74
      go_wp2_with (first
        | (go_at_call 101; go_must (refine (valid_any l _ hl hT).mono ?_; rintro e w1 ⟨rfl, hb1⟩; have H1 := Lib.hid hb1; clear hb1)))
      go_ret
      exact ⟨ret_val HE.out.symm, H1.out⟩
    · have hv' : validD l = false := by simpa using hv
      have e : checkZ l = 4 := by unfold checkZ; rw [if_neg h2, if_neg hv]
      have HE := Lib.hid e
      clear e hv
      go_enter Tryz.func74, Tryz.ntmps74
      go_wp2_with (first
        | (go_at_call 101; go_must (refine (valid_any l _ hl hT).mono ?_; rintro e w1 ⟨rfl, hb1⟩; have H1 := Lib.hid hb1; clear hb1)))
      go_ret
      exact ⟨ret_val HE.out.symm, H1.out⟩

/-- The bytes l lie at b, from off on. -/
def Bys (w : World) (b off : Nat) (l : List UInt8) : Prop := ∀ j (h : j < l.length), w.cell? ⟨b, off + j, none⟩ = some (.int .u8 ((l[j]'h).toNat : Int))
theorem Bys.below {w w' : World} {b off : Nat} {l : List UInt8} (h : Bys w b off l) (hb : Below w.heap.size w w') (hlt : b < w.heap.size) : Bys w' b off l := fun j hj =>
  (hb.cell (p := ⟨b, off + j, none⟩) hlt).trans (h j hj)
end Go.Proofs.YtkleadjkebofpaaGreatDoor

/- How far a body has come: nest's add, turn, close. -/
namespace Go.Proofs.YtkleadjkebofpaaGreatDoor
open Go.RowKit
set_option linter.unusedVariables false
set_option maxRecDepth 100000

/-- Are the opcodes the rest of a body in which these blocks are open? -/
def shapeGo : List UInt8 → List UInt8 → Bool
  | st, [] => false
  | st, op :: r =>
    if immR op.toNat = 1 then shapeGo (st ++ [op]) r
    else if op = 5 then (if st.getLast? = some 4 then shapeGo (st.dropLast ++ [5]) r else false)
    else if op = 11 then (if st = [] then r.isEmpty else shapeGo st.dropLast r)
    else shapeGo st r
/-- One more: the open blocks, and is it the end of all? -/
def addZ (st : List UInt8) (op : UInt8) : Option (List UInt8 × Bool) :=
  if immR op.toNat = 1 then some (st ++ [op], false)
  else if op = 5 then (if st.getLast? = some 4 then some (st.dropLast ++ [5], false) else none)
  else if op = 11 then (if st = [] then some (st, true) else some (st.dropLast, false))
  else some (st, false)
theorem shape_add (st : List UInt8) (op : UInt8) (r : List UInt8) : shapeGo st (op :: r) = match addZ st op with
    | none => false
    | some (st', false) => shapeGo st' r
    | some (st', true) => r.isEmpty := by
  unfold addZ
  show (if immR op.toNat = 1 then _ else _) = _
  by_cases h1 : immR op.toNat = 1
  · rw [if_pos h1, if_pos h1]
  · rw [if_neg h1, if_neg h1]
    by_cases h2 : op = 5
    · rw [if_pos h2, if_pos h2]
      by_cases h3 : st.getLast? = some 4
      · rw [if_pos h3, if_pos h3]
      · rw [if_neg h3, if_neg h3]
    · rw [if_neg h2, if_neg h2]
      by_cases h3 : op = 11
      · rw [if_pos h3, if_pos h3]
        by_cases h4 : st = []
        · rw [if_pos h4, if_pos h4]
        · rw [if_neg h4, if_neg h4]
      · rw [if_neg h3, if_neg h3]
theorem Row.cut {w : World} {base : Nat} {A : Option Addr} {n c : Nat} {xs : List UInt8} (h : Row w base (.slice A n c) xs) (hne : xs ≠ []) : ∃ g, A = some ⟨g, 0, none⟩ ∧ n = xs.length ∧ base ≤ g ∧ g < w.heap.size ∧ Row w base (.slice A (n - 1) c) xs.dropLast ∧ xs.length ≤ c ∧ c ≤ maxLen := by
  obtain ⟨h1, h2⟩ := h
  rcases h2 with ⟨e, e2⟩ | ⟨g, cap, cur, e, hb, hg, hc, hm, hs, ht⟩
  · exact absurd (List.eq_nil_of_length_eq_zero e2) hne
  · injection e with e1 e2 e3
    subst e1; subst e2; subst e3
    have hl : 0 < xs.length := List.length_pos_iff.2 hne
    refine ⟨g, rfl, rfl, hb, (Array.getElem?_eq_some_iff.1 hg).1, ⟨by rw [cells_length, nums_length]; omega, .inr ⟨g, c, cur, by rw [List.length_dropLast], hb, hg, by rw [List.length_dropLast]; omega, hm, hs, ?_⟩⟩, hc, hm⟩
    rw [List.length_dropLast]
    have : cur.toList.take ((xs.length - 1) * 1) = (cur.toList.take (xs.length * 1)).take (xs.length - 1) := by rw [List.take_take]; congr 1; omega
    rw [this, ht]
    unfold cells nums
    rw [← List.map_take, ← List.map_take, List.dropLast_eq_take]
theorem Row.last {w : World} {base : Nat} {g c : Nat} {xs : List UInt8} (h : Row w base (.slice (some ⟨g, 0, none⟩) xs.length c) xs) {x : UInt8} (hx : xs.getLast? = some x) : w.cell? ⟨g, xs.length - 1, none⟩ = some (.int .u8 x.toNat) ∧ w.frozen? ⟨g, xs.length - 1, none⟩ = false ∧
    ∀ y : UInt8, Row (w.setCell ⟨g, xs.length - 1, none⟩ (.int .u8 y.toNat)) base (.slice (some ⟨g, 0, none⟩) xs.length c) (xs.dropLast ++ [y]) ∧ w.grownBy (w.setCell ⟨g, xs.length - 1, none⟩ (.int .u8 y.toNat)) (some g) := by
  have hne : xs ≠ [] := fun e => by rw [e] at hx; cases hx
  have hl : 0 < xs.length := List.length_pos_iff.2 hne
  have hxi : xs[xs.length - 1]? = some x := by rw [← hx, List.getLast?_eq_getElem?]
  obtain ⟨A, c', e, hli, _⟩ := h.liesN
  injection e with e1 e2 e3
  subst e1
  obtain ⟨b, off, e4, _, hc⟩ := hli (xs.length - 1) (.int .u8 x.toNat) (by unfold cells nums; rw [List.map_map, List.getElem?_map, hxi]; rfl)
  injection e4 with e4
  injection e4 with e5 e6
  subst e5; subst e6
  rw [Nat.zero_add] at hc
  have hfr : w.frozen? ⟨g, xs.length - 1, none⟩ = false := by
    rcases h.2 with ⟨e, _⟩ | ⟨g', cap, cur, e, hb, hg, _⟩
    · cases e
    · injection e with e1 _ _
      injection e1 with e1
      injection e1 with e1
      subst e1
      exact frozen_of_row w _ _ cur _ hg
  refine ⟨hc, hfr, fun y => ?_⟩
  obtain ⟨h1, h2⟩ := World.ownsRow.stored h (xs.length - 1) (.int .u8 y.toNat)
  refine ⟨?_, h2⟩
  have e : (cells (nums xs)).set (xs.length - 1) (.int .u8 y.toNat) = cells (nums (xs.dropLast ++ [y])) := by
    have hd : xs = xs.dropLast ++ [x] := by
      obtain ⟨ys, rfl⟩ := List.getLast?_eq_some_iff.1 hx
      simp
    conv => lhs; rw [hd]
    unfold cells nums
    rw [List.map_append, List.map_append, List.map_append, List.map_append]
    rw [List.set_append_right _ _ (by simp)]
    simp
  unfold Row
  rw [← e]
  have hl2 : (xs.dropLast ++ [y]).length = xs.length := by simp; omega
  rw [hl2]
  exact h1
theorem Row.apart {w : World} {base n nb : Nat} {a : Addr} {c : Nat} {xs : List UInt8} {t : TypeId} {cs : Array Value} (h : Row w base (.slice (some a) n c) xs) (hw : Whole w nb t cs) (hne : t ≠ 5) : nb ≠ a.block := by
  rcases h.2 with ⟨e, _⟩ | ⟨g, cap, cur, e, hb, hg, _⟩
  · cases e
  · injection e with e1 _ _
    injection e1 with e1
    subst e1
    exact hw.apart (show Whole w g 5 cur from hg) hne
section
variable {W : World} {nb base : Nat} {v : Value} {st : List UInt8}
end
end Go.Proofs.YtkleadjkebofpaaGreatDoor
