/- The reference's num, signed, Put. (By gen/genRefPut.py.) -/
import Derived.Test.YtkleadjkebofpaaGreatDoorZs03
import Derived.Test.YtkleadjkebofpaaGreatDoorZs04
import Derived.Test.YtkleadjkebofpaaGreatDoorZs02
import Derived.Test.YtkleadjkebofpaaGreatDoorZs01
import Derived.OwnWalk
import Derived.StillTailTactics
namespace Go.Proofs.YtkleadjkebofpaaGreatDoor
open Go.RowKit
set_option linter.unusedVariables false
set_option maxRecDepth 100000

section
variable {w W W' : World} {i : I} {A : Option Addr} {c : Nat}
end
end Go.Proofs.YtkleadjkebofpaaGreatDoor

/- consts.Put, Global; the reference's Put; awake. -/
namespace Go.Proofs.YtkleadjkebofpaaGreatDoor
open Go.RowKit
set_option linter.unusedVariables false
set_option maxRecDepth 100000

end Go.Proofs.YtkleadjkebofpaaGreatDoor

/- Of any bytes, errors and their places too: Scanner.Int, getOp, getBlock, getNumber, getNought. (For a later seat: ConstsReads.) -/
namespace Go.Proofs.YtkleadjkebofpaaGreatDoor
open Go.RowKit
set_option linter.unusedVariables false
set_option maxRecDepth 100000

end Go.Proofs.YtkleadjkebofpaaGreatDoor

/- What an instruction and a constant expression read of any bytes are, as plain functions; wire.Nought of any bytes. -/
namespace Go.Proofs.YtkleadjkebofpaaGreatDoor
open Go.RowKit
set_option linter.unusedVariables false
set_option maxRecDepth 100000

end Go.Proofs.YtkleadjkebofpaaGreatDoor

/- Constant expressions have no labels; their bytes. -/
namespace Go.Proofs.YtkleadjkebofpaaGreatDoor
open Go.RowKit
set_option linter.unusedVariables false
set_option maxRecDepth 100000

end Go.Proofs.YtkleadjkebofpaaGreatDoor

/- Globals as plain data; globals.Right; creelref12.Right. -/
namespace Go.Proofs.YtkleadjkebofpaaGreatDoor
open Go.RowKit
set_option linter.unusedVariables false
set_option maxRecDepth 100000

/-- A global. -/
structure Gl where
  t : UInt8
  m : Bool
  i : I
/-- Its cells, its labels at A. -/
abbrev glC (x : Gl) (A : Option Addr) (c : Nat) : Array Value := #[.int .u8 x.t.toNat, .bool x.m, .int .u8 x.i.op.toNat, .int .u64 x.i.a, .int .u64 x.i.b, .slice A x.i.l.length c]
abbrev SixG (W : World) (b : Nat) (x : Gl) (A : Option Addr) (c : Nat) : Prop :=
  W.cell? ⟨b, 0, none⟩ = some (.int .u8 x.t.toNat) ∧ W.cell? ⟨b, 1, none⟩ = some (.bool x.m) ∧ W.cell? ⟨b, 2, none⟩ = some (.int .u8 x.i.op.toNat) ∧ W.cell? ⟨b, 3, none⟩ = some (.int .u64 x.i.a) ∧ W.cell? ⟨b, 4, none⟩ = some (.int .u64 x.i.b) ∧ W.cell? ⟨b, 5, none⟩ = some (.slice A x.i.l.length c)
theorem Whole.gl {w : World} {b : Nat} {t : TypeId} {x : Gl} {A : Option Addr} {c : Nat} (h : Whole w b t (glC x A c)) : SixG w b x A c := ⟨h.cell 0, h.cell 1, h.cell 2, h.cell 3, h.cell 4, h.cell 5⟩
section
variable {B W W' : World} {b : Nat} {x : Gl} {A : Option Addr} {c : Nat}
end
end Go.Proofs.YtkleadjkebofpaaGreatDoor

/- globals.Put; creelref12.Count, Put. -/
namespace Go.Proofs.YtkleadjkebofpaaGreatDoor
open Go.RowKit
set_option linter.unusedVariables false
set_option maxRecDepth 100000

end Go.Proofs.YtkleadjkebofpaaGreatDoor

/- Globals that lie somewhere; rows of globals of the call's own. -/
namespace Go.Proofs.YtkleadjkebofpaaGreatDoor
open Go.RowKit
set_option linter.unusedVariables false
set_option maxRecDepth 100000

/-- A global and where its labels lie. -/
abbrev SlotG := Gl × Option Addr × Nat
abbrev sC (x : SlotG) : Array Value := glC x.1 x.2.1 x.2.2
def sL (x : SlotG) : List Value := (sC x).toList
/-- A row of globals of the call's own. -/
def RowG (W : World) (base : Nat) (v : Value) (rows : List SlotG) : Prop := W.ownsRow base 87 6 v rows.length (rows.flatMap sL)
theorem RowG.nil (W : World) (base : Nat) : RowG W base (.slice none 0 0) [] := World.ownsRow_nil W base _ 6
theorem RowG.slice {W : World} {base : Nat} {v : Value} {rows : List SlotG} (h : RowG W base v rows) : ∃ A c, v = .slice A rows.length c := by
  rcases h.2 with ⟨rfl, h0⟩ | ⟨g, cap, cur, rfl, _⟩
  · exact ⟨none, 0, by rw [h0]⟩
  · exact ⟨_, cap, rfl⟩
theorem RowG.past {W W' : World} {base b : Nat} {v : Value} {rows : List SlotG} (h : RowG W base v rows) (hg : W.grownBy W' (some b)) (hb : b < base) : RowG W' base v rows :=
  World.ownsRow.kept h hg (by
    cases hv : v.ownBlock with
    | none => exact .inl rfl
    | some k => exact .inr (by have := (World.ownsRow.lt h k hv).1; simp only [ne_eq, Option.some.injEq]; omega))
theorem RowG.later {W W' : World} {base : Nat} {v : Value} {rows : List SlotG} (h : RowG W base v rows) (hb : Below W.heap.size W W') : RowG W' base v rows :=
  World.ownsRow.kept h (gb_of_below none hb) (by cases v.ownBlock with
    | none => exact .inl rfl
    | some k => exact .inr (by simp))
theorem RowG.alloc {W : World} {base : Nat} {v : Value} {rows : List SlotG} (h : RowG W base v rows) (o : Obj) : RowG (W.alloc o) base v rows := World.ownsRow.alloc h o
theorem RowG.mono {W : World} {base base' : Nat} {v : Value} {rows : List SlotG} (h : RowG W base v rows) (hb : base' ≤ base) : RowG W base' v rows := by
  obtain ⟨h1, h2⟩ := h
  refine ⟨h1, ?_⟩
  rcases h2 with h2 | ⟨g, cap, cur, e, hg, r⟩
  · exact .inl h2
  · exact .inr ⟨g, cap, cur, e, Nat.le_trans hb hg, r⟩
/-- Nothing old has turned, and nothing of the row's own is lost. -/
theorem RowG.below {w W W' : World} {base : Nat} {v : Value} {rows : List SlotG} (h : RowG W base v rows) (hB : base ≤ W.heap.size) (hg : W.grownBy W' v.ownBlock) : Below base W W' :=
  Below.grown (Below.refl _ _) hg hB (fun k hk => (World.ownsRow.lt h k hk).1)

/-- The slice at A reads as these globals. -/
def Gs (w : World) (A : Option Addr) (l : List SlotG) : Prop :=
  ∀ j x, l[j]? = some x → ∃ b off, A = some ⟨b, off, none⟩ ∧ b < w.heap.size ∧ ∀ u, u < 6 → w.cell? ⟨b, off + j * 6 + u, none⟩ = (sL x)[u]?
theorem Gs.below {w w' : World} {A : Option Addr} {l : List SlotG} (h : Gs w A l) (hb : Below w.heap.size w w') : Gs w' A l := fun j x hx => by
  obtain ⟨b, off, e, h1, h2⟩ := h j x hx
  exact ⟨b, off, e, Nat.lt_of_lt_of_le h1 hb.size, fun u hu => (hb.cell (p := ⟨b, _, none⟩) h1).trans (h2 u hu)⟩
/-- The six cells of one of them, as a walk writes them. -/
abbrev SixAt (w : World) (b : Nat) (o : Nat) (x : SlotG) : Prop := w.cell? ⟨b, o, none⟩ = some (.int .u8 x.1.t.toNat) ∧ w.cell? ⟨b, o + 1, none⟩ = some (.bool x.1.m) ∧ w.cell? ⟨b, o + 2, none⟩ = some (.int .u8 x.1.i.op.toNat) ∧ w.cell? ⟨b, o + 3, none⟩ = some (.int .u64 x.1.i.a) ∧ w.cell? ⟨b, o + 4, none⟩ = some (.int .u64 x.1.i.b) ∧ w.cell? ⟨b, o + 5, none⟩ = some (.slice x.2.1 x.1.i.l.length x.2.2)
theorem Gs.six {w : World} {A : Option Addr} {l : List SlotG} (h : Gs w A l) {k : Nat} {x : SlotG} (hx : l[k]? = some x) : ∃ b off, A = some ⟨b, off, none⟩ ∧ b < w.heap.size ∧ SixAt w b (off + k * 6) x := by
  obtain ⟨b, off, e, h1, h2⟩ := h k x hx
  exact ⟨b, off, e, h1, h2 0 (by omega), h2 1 (by omega), h2 2 (by omega), h2 3 (by omega), h2 4 (by omega), h2 5 (by omega)⟩
theorem flatG_get : ∀ (l : List SlotG) (j : Nat) (x : SlotG) (u : Nat), l[j]? = some x → u < 6 → (l.flatMap sL)[j * 6 + u]? = (sL x)[u]?
  | [], j, x, u, h, _ => by cases h
  | y :: l, 0, x, u, h, hu => by
    injection h with h
    subst h
    rw [List.flatMap_cons, Nat.zero_mul, Nat.zero_add, List.getElem?_append_left (by show u < 6; exact hu)]
  | y :: l, j + 1, x, u, h, hu => by
    rw [List.flatMap_cons, List.getElem?_append_right (by show 6 ≤ _; omega)]
    have e : (j + 1) * 6 + u - (sL y).length = j * 6 + u := by show (j + 1) * 6 + u - 6 = _; omega
    rw [e]
    exact flatG_get l j x u h hu
/-- What a row of globals reads as. -/
theorem RowG.gs {W : World} {base : Nat} {A : Option Addr} {n c : Nat} {rows : List SlotG} (h : RowG W base (.slice A n c) rows) : Gs W A rows := fun j x hx => by
  have hj := (List.getElem?_eq_some_iff.1 hx).1
  rcases h.2 with ⟨_, h0⟩ | ⟨g, cap, cur, e, _, hg, _, _, _, ht⟩
  · omega
  · injection e with e1 e2 e3
    exact ⟨g, 0, e1, (Array.getElem?_eq_some_iff.1 hg).1, fun u hu => by
      rw [cell_of_row W g (0 + j * 6 + u) cur _ _ hg, ← flatG_get rows j x u hx hu, ← ht, List.getElem?_take, if_pos (by omega)]
      simp⟩
end Go.Proofs.YtkleadjkebofpaaGreatDoor

/- Element segments as plain data; elems.Right; creelref13.Count, Right. -/
namespace Go.Proofs.YtkleadjkebofpaaGreatDoor
open Go.RowKit
set_option linter.unusedVariables false
set_option maxRecDepth 100000

/-- An element segment: its offset, its functions. -/
structure El where
  i : I
  fs : List Int
/-- Its cells, its labels at A, its functions at F. -/
abbrev elC (x : El) (A : Option Addr) (c : Nat) (F : Option Addr) (f : Nat) : Array Value := #[.int .u8 x.i.op.toNat, .int .u64 x.i.a, .int .u64 x.i.b, .slice A x.i.l.length c, .slice F x.fs.length f]
/-- The zero value's cells. -/
abbrev elZ : Array Value := #[.int .u8 0, .int .u64 0, .int .u64 0, .slice none 0 0, .slice none 0 0]
abbrev FiveE (W : World) (b : Nat) (x : El) (A : Option Addr) (c : Nat) (F : Option Addr) (f : Nat) : Prop :=
  W.cell? ⟨b, 0, none⟩ = some (.int .u8 x.i.op.toNat) ∧ W.cell? ⟨b, 1, none⟩ = some (.int .u64 x.i.a) ∧ W.cell? ⟨b, 2, none⟩ = some (.int .u64 x.i.b) ∧ W.cell? ⟨b, 3, none⟩ = some (.slice A x.i.l.length c) ∧ W.cell? ⟨b, 4, none⟩ = some (.slice F x.fs.length f)
theorem Whole.el {w : World} {b : Nat} {t : TypeId} {x : El} {A : Option Addr} {c : Nat} {F : Option Addr} {f : Nat} (h : Whole w b t (elC x A c F f)) : FiveE w b x A c F f := ⟨h.cell 0, h.cell 1, h.cell 2, h.cell 3, h.cell 4⟩
section
variable {B W W' : World} {b : Nat} {x : El} {A : Option Addr} {c : Nat} {F : Option Addr} {f : Nat}
end
end Go.Proofs.YtkleadjkebofpaaGreatDoor

/- segment.Head, elems.Put. -/
namespace Go.Proofs.YtkleadjkebofpaaGreatDoor
open Go.RowKit
set_option linter.unusedVariables false
set_option maxRecDepth 100000

end Go.Proofs.YtkleadjkebofpaaGreatDoor

/- instr.Get of any bytes. (By gen/genGetA.py.) -/
namespace Go.Proofs.YtkleadjkebofpaaGreatDoor
open Go.RowKit
set_option linter.unusedVariables false
set_option maxRecDepth 100000

end Go.Proofs.YtkleadjkebofpaaGreatDoor

/- consts.Read of any bytes. -/
namespace Go.Proofs.YtkleadjkebofpaaGreatDoor
open Go.RowKit
set_option linter.unusedVariables false
set_option maxRecDepth 100000

section
variable {w : World} {p : Nat} {l : List UInt8} {H2 : Nat} {i : I} {A : Option Addr} {c k k' : Nat} {W W' : World}
end
end Go.Proofs.YtkleadjkebofpaaGreatDoor

/- segment.GetHead, elems.Get of any bytes. -/
namespace Go.Proofs.YtkleadjkebofpaaGreatDoor
open Go.RowKit
set_option linter.unusedVariables false
set_option maxRecDepth 100000

/-- Get once the offset is read: the result's block, the offset's box; what the reader at q turns. -/
structure GBE (w : World) (q bt : Nat) (i : I) (A : Option Addr) (c : Nat) (W : World) : Prop where
  res : Whole W w.heap.size 96 elZ
  bx : Whole W bt 85 (insC i A c)
  gr : w.grownBy W (some q)
  hp : q < w.heap.size
  lt : w.heap.size < bt
section
variable {w W W' : World} {q bt : Nat} {i : I} {A : Option Addr} {c : Nat}
theorem GBE.call (h : GBE w q bt i A c W) (hg : W.grownBy W' (some q)) : GBE w q bt i A c W' := by
  have a := h.hp
  have b := h.lt
  exact ⟨h.res.grown hg (by simp only [ne_eq, Option.some.injEq]; omega), h.bx.grown hg (by simp only [ne_eq, Option.some.injEq]; omega), gb_trans h.gr hg, a, b⟩
end
end Go.Proofs.YtkleadjkebofpaaGreatDoor

/- The reference's reader: how far it is; Fail, Byte, Num, Index, Count, nought, whatever it is. -/
namespace Go.Proofs.YtkleadjkebofpaaGreatDoor
open Go.RowKit
set_option linter.unusedVariables false
set_option maxRecDepth 100000

/-- A place, or an error and its place. -/
inductive RSt where
  | at (k : Nat)
  | bad (c a : Int)
def RSt.off : RSt → Int
  | .at _ => 0
  | .bad _ a => a
def RSt.fail (s : RSt) (c a : Int) : RSt := match s with
  | .at _ => .bad c a
  | .bad c2 a2 => .bad c2 a2
section
variable {w w' : World} {q : Nat} {l : List UInt8} {s : RSt} {k : Nat} {c a : Int}
end

/-- A byte, or 0. -/
def v8 : Res UInt8 → Int
  | .ok c _ => c.toNat
  | .err _ _ => 0
end Go.Proofs.YtkleadjkebofpaaGreatDoor

/- The reference's reader: Num, Index, Count, nought. -/
namespace Go.Proofs.YtkleadjkebofpaaGreatDoor
open Go.RowKit
set_option linter.unusedVariables false
set_option maxRecDepth 100000

end Go.Proofs.YtkleadjkebofpaaGreatDoor

/- What the reference's Get keeps on its way; its labels in a row of its own. -/
namespace Go.Proofs.YtkleadjkebofpaaGreatDoor
open Go.RowKit
set_option linter.unusedVariables false
set_option maxRecDepth 100000

section
variable {w : World} {q : Nat} {l : List UInt8} {H2 : Nat} {A : Option Addr} {ls : List Int} {s s' : RSt} {v0 v1 v2 v3 : Value} {W W' : World} {c : Int} {vb v v' : Value} {acc : List Int}
end
end Go.Proofs.YtkleadjkebofpaaGreatDoor

/- Element segments that lie somewhere; rows of segments of the call's own, with their functions. -/
namespace Go.Proofs.YtkleadjkebofpaaGreatDoor
open Go.RowKit
set_option linter.unusedVariables false
set_option maxRecDepth 100000

theorem LabT.on {W W' : World} {A : Option Addr} {ls : List Int} (h : LabT W A ls) (hb : Below W.heap.size W W') : LabT W' A ls := h.keep (gb_of_below none hb) (fun a _ => by simp)
/-- A segment, where its labels lie, where its functions lie. -/
abbrev SlotEl := El × (Option Addr × Nat) × (Option Addr × Nat)
abbrev qC (x : SlotEl) : Array Value := elC x.1 x.2.1.1 x.2.1.2 x.2.2.1 x.2.2.2
def qL (x : SlotEl) : List Value := (qC x).toList
/-- A row of segments of the call's own; the functions of each lie behind the row's bound. -/
structure RowEl (W : World) (base : Nat) (v : Value) (rows : List SlotEl) : Prop where
  own : W.ownsRow base 96 5 v rows.length (rows.flatMap qL)
  labs : ∀ x ∈ rows, LabT W x.2.2.1 x.1.fs ∧ ∀ a, x.2.2.1 = some a → base ≤ a.block
theorem RowEl.nil (W : World) (base : Nat) : RowEl W base (.slice none 0 0) [] := ⟨World.ownsRow_nil W base _ 5, fun x hx => by cases hx⟩
theorem RowEl.slice {W : World} {base : Nat} {v : Value} {rows : List SlotEl} (h : RowEl W base v rows) : ∃ A c, v = .slice A rows.length c := by
  rcases h.own.2 with ⟨rfl, h0⟩ | ⟨g, cap, cur, rfl, _⟩
  · exact ⟨none, 0, by rw [h0]⟩
  · exact ⟨_, cap, rfl⟩
theorem RowEl.lt {W : World} {base : Nat} {v : Value} {rows : List SlotEl} (h : RowEl W base v rows) : ∀ k, v.ownBlock = some k → base ≤ k ∧ k < W.heap.size := World.ownsRow.lt h.own
theorem RowEl.past {W W' : World} {base b : Nat} {v : Value} {rows : List SlotEl} (h : RowEl W base v rows) (hg : W.grownBy W' (some b)) (hb : b < base) : RowEl W' base v rows :=
  ⟨World.ownsRow.kept h.own hg (by
    cases hv : v.ownBlock with
    | none => exact .inl rfl
    | some k => exact .inr (by have := (World.ownsRow.lt h.own k hv).1; simp only [ne_eq, Option.some.injEq]; omega)),
   fun x hx => ⟨(h.labs x hx).1.keep hg (fun a ha => by have := (h.labs x hx).2 a ha; simp only [ne_eq, Option.some.injEq]; omega), (h.labs x hx).2⟩⟩
theorem RowEl.later {W W' : World} {base : Nat} {v : Value} {rows : List SlotEl} (h : RowEl W base v rows) (hb : Below W.heap.size W W') : RowEl W' base v rows :=
  ⟨World.ownsRow.kept h.own (gb_of_below none hb) (by cases v.ownBlock with
    | none => exact .inl rfl
    | some k => exact .inr (by simp)), fun x hx => ⟨(h.labs x hx).1.on hb, (h.labs x hx).2⟩⟩
theorem RowEl.alloc {W : World} {base : Nat} {v : Value} {rows : List SlotEl} (h : RowEl W base v rows) (o : Obj) : RowEl (W.alloc o) base v rows := h.later (below_box W o)
theorem RowEl.mono {W : World} {base base' : Nat} {v : Value} {rows : List SlotEl} (h : RowEl W base v rows) (hb : base' ≤ base) : RowEl W base' v rows := by
  obtain ⟨⟨h1, h2⟩, h3⟩ := h
  refine ⟨⟨h1, ?_⟩, fun x hx => ⟨(h3 x hx).1, fun a ha => Nat.le_trans hb ((h3 x hx).2 a ha)⟩⟩
  rcases h2 with h2 | ⟨g, cap, cur, e, hg, r⟩
  · exact .inl h2
  · exact .inr ⟨g, cap, cur, e, Nat.le_trans hb hg, r⟩
/-- The slice at A reads as these segments, and the functions of each lie. -/
def Es (w : World) (A : Option Addr) (l : List SlotEl) : Prop :=
  ∀ j x, l[j]? = some x → (∃ b off, A = some ⟨b, off, none⟩ ∧ b < w.heap.size ∧ ∀ u, u < 5 → w.cell? ⟨b, off + j * 5 + u, none⟩ = (qL x)[u]?) ∧ LiesL w x.2.2.1 x.1.fs
theorem Es.below {w w' : World} {A : Option Addr} {l : List SlotEl} (h : Es w A l) (hb : Below w.heap.size w w') : Es w' A l := fun j x hx => by
  obtain ⟨⟨b, off, e, h1, h2⟩, h3⟩ := h j x hx
  exact ⟨⟨b, off, e, Nat.lt_of_lt_of_le h1 hb.size, fun u hu => (hb.cell (p := ⟨b, _, none⟩) h1).trans (h2 u hu)⟩, h3.below hb⟩
end Go.Proofs.YtkleadjkebofpaaGreatDoor

/- Bodies as plain data: groups of locals, instructions; the reference's Locals, Much. -/
namespace Go.Proofs.YtkleadjkebofpaaGreatDoor
open Go.RowKit
set_option linter.unusedVariables false
set_option maxRecDepth 100000

/-- A group of locals; a body. -/
structure Lo where
  n : UInt32
  t : UInt8
structure Bd where
  ls : List Lo
  b : List I
abbrev bdC (x : Bd) (L : Option Addr) (l : Nat) (B : Option Addr) (c : Nat) : Array Value := #[.slice L x.ls.length l, .slice B x.b.length c]
abbrev TwoB (W : World) (b : Nat) (x : Bd) (L : Option Addr) (l : Nat) (B : Option Addr) (c : Nat) : Prop :=
  W.cell? ⟨b, 0, none⟩ = some (.slice L x.ls.length l) ∧ W.cell? ⟨b, 1, none⟩ = some (.slice B x.b.length c)
theorem Whole.bd {w : World} {b : Nat} {t : TypeId} {x : Bd} {L : Option Addr} {l : Nat} {B : Option Addr} {c : Nat} (h : Whole w b t (bdC x L l B c)) : TwoB w b x L l B c := ⟨h.cell 0, h.cell 1⟩
section
variable {W0 W W' : World} {b : Nat} {x : Bd} {L : Option Addr} {l : Nat} {B : Option Addr} {c : Nat}
end
/-- The slice at A reads as these groups. -/
def Los (w : World) (A : Option Addr) (l : List Lo) : Prop :=
  ∀ j x, l[j]? = some x → ∃ b off, A = some ⟨b, off, none⟩ ∧ b < w.heap.size ∧ w.cell? ⟨b, off + j * 2, none⟩ = some (.int .u32 x.n.toNat) ∧ w.cell? ⟨b, off + j * 2 + 1, none⟩ = some (.int .u8 x.t.toNat)
theorem Los.below {w w' : World} {A : Option Addr} {l : List Lo} (h : Los w A l) (hb : Below w.heap.size w w') : Los w' A l := fun j x hx => by
  obtain ⟨b, off, e, h1, h2, h3⟩ := h j x hx
  exact ⟨b, off, e, Nat.lt_of_lt_of_le h1 hb.size, (hb.cell (p := ⟨b, _, none⟩) h1).trans h2, (hb.cell (p := ⟨b, _, none⟩) h1).trans h3⟩
end Go.Proofs.YtkleadjkebofpaaGreatDoor

/- GetBody of a body's bytes. -/
namespace Go.Proofs.YtkleadjkebofpaaGreatDoor
open Go.RowKit
set_option linter.unusedVariables false
set_option maxRecDepth 100000

section
variable {w : World} {p : Nat} {l : List UInt8} {full : List I} {k0 k : Nat} {v : Value} {rows : List Slot} {st : List UInt8} {en : Bool} {W W' : World}
theorem LabT.below {A : Option Addr} {ls : List Int} (h : LabT W A ls) (hb : Below W.heap.size W W') : LabT W' A ls := h.keep (gb_of_below none hb) (fun a _ => by simp)
end
/-- A row of instructions of the call's own; the labels of each lie behind the row's bound. -/
structure RowIL (W : World) (base : Nat) (v : Value) (rows : List Slot) : Prop where
  own : RowI W base v rows
  labs : ∀ x ∈ rows, LabT W x.2.1 x.1.l ∧ ∀ a, x.2.1 = some a → base ≤ a.block
theorem RowIL.nil (W : World) (base : Nat) : RowIL W base (.slice none 0 0) [] := ⟨World.ownsRow_nil W base _ 4, fun x hx => by cases hx⟩
theorem RowIL.lt {W : World} {base : Nat} {v : Value} {rows : List Slot} (h : RowIL W base v rows) : ∀ k, v.ownBlock = some k → base ≤ k ∧ k < W.heap.size := World.ownsRow.lt h.own
theorem RowIL.past {W W' : World} {base b : Nat} {v : Value} {rows : List Slot} (h : RowIL W base v rows) (hg : W.grownBy W' (some b)) (hb : b < base) : RowIL W' base v rows :=
  ⟨World.ownsRow.kept h.own hg (by
    cases hv : v.ownBlock with
    | none => exact .inl rfl
    | some k => exact .inr (by have := (World.ownsRow.lt h.own k hv).1; simp only [ne_eq, Option.some.injEq]; omega)),
   fun x hx => ⟨(h.labs x hx).1.keep hg (fun a ha => by have := (h.labs x hx).2 a ha; simp only [ne_eq, Option.some.injEq]; omega), (h.labs x hx).2⟩⟩
theorem RowIL.later {W W' : World} {base : Nat} {v : Value} {rows : List Slot} (h : RowIL W base v rows) (hb : Below W.heap.size W W') : RowIL W' base v rows :=
  ⟨World.ownsRow.kept h.own (gb_of_below none hb) (by cases v.ownBlock with
    | none => exact .inl rfl
    | some k => exact .inr (by simp)), fun x hx => ⟨(h.labs x hx).1.keep (gb_of_below none hb) (fun a _ => by simp), (h.labs x hx).2⟩⟩
theorem RowIL.mono {W : World} {base base' : Nat} {v : Value} {rows : List Slot} (h : RowIL W base v rows) (hb : base' ≤ base) : RowIL W base' v rows := by
  obtain ⟨⟨h1, h2⟩, h3⟩ := h
  refine ⟨⟨h1, ?_⟩, fun x hx => ⟨(h3 x hx).1, fun a ha => Nat.le_trans hb ((h3 x hx).2 a ha)⟩⟩
  rcases h2 with h2 | ⟨g, cap, cur, e, hg, r⟩
  · exact .inl h2
  · exact .inr ⟨g, cap, cur, e, Nat.le_trans hb hg, r⟩
end Go.Proofs.YtkleadjkebofpaaGreatDoor

/- Bodies that lie somewhere; rows of bodies of the call's own, with their groups of locals and their instructions. -/
namespace Go.Proofs.YtkleadjkebofpaaGreatDoor
open Go.RowKit
set_option linter.unusedVariables false
set_option maxRecDepth 100000

/-- Groups that were read: none, or the beginning of a block of their own. -/
def loL (x : Lo) : List Value := [.int .u32 x.n.toNat, .int .u8 x.t.toNat]
def LocT (W : World) (A : Option Addr) (ls : List Lo) : Prop := (A = none ∧ ls = []) ∨ ∃ g cur, A = some ⟨g, 0, none⟩ ∧ Whole W g 160 cur ∧ cur.toList.take (ls.length * 2) = ls.flatMap loL
theorem LocT.keep {W W' : World} {A : Option Addr} {ls : List Lo} {row : Option Nat} (h : LocT W A ls) (hg : W.grownBy W' row) (hq : ∀ a, A = some a → some a.block ≠ row) : LocT W' A ls := by
  rcases h with h | ⟨g, cur, rfl, h, ht⟩
  · exact .inl h
  · exact .inr ⟨g, cur, rfl, h.grown hg (hq _ rfl), ht⟩
theorem LocT.on {W W' : World} {A : Option Addr} {ls : List Lo} (h : LocT W A ls) (hb : Below W.heap.size W W') : LocT W' A ls := h.keep (gb_of_below none hb) (fun a _ => by simp)
theorem LocT.apart {W : World} {A : Option Addr} {ls : List Lo} (h : LocT W A ls) {q : Nat} {t : TypeId} {cs : Array Value} (hw : Whole W q t cs) (ht : t ≠ 160) : ∀ a, A = some a → some a.block ≠ some q := by
  rcases h with ⟨rfl, rfl⟩ | ⟨g, cur, rfl, h, _⟩
  · intro a e; cases e
  · intro a e
    injection e with e
    subst e
    simp only [ne_eq, Option.some.injEq]
    exact fun e => hw.apart h ht e.symm
/-- A body, where its groups lie, where its instructions lie. -/
abbrev SlotBd := Bd × (Option Addr × Nat) × (Option Addr × Nat)
abbrev cC (x : SlotBd) : Array Value := bdC x.1 x.2.1.1 x.2.1.2 x.2.2.1 x.2.2.2
def cL (x : SlotBd) : List Value := (cC x).toList
/-- What a body that was read holds: its groups, its instructions with their labels, all behind a bound. -/
def HasBd (W : World) (base : Nat) (x : SlotBd) : Prop := (LocT W x.2.1.1 x.1.ls ∧ ∀ a, x.2.1.1 = some a → base ≤ a.block) ∧ ∃ rows, RowIL W base (.slice x.2.2.1 x.1.b.length x.2.2.2) rows ∧ rows.map (·.1) = x.1.b
theorem HasBd.past {W W' : World} {base b : Nat} {x : SlotBd} (h : HasBd W base x) (hg : W.grownBy W' (some b)) (hb : b < base) : HasBd W' base x := by
  obtain ⟨⟨h1, h2⟩, rows, h3, h4⟩ := h
  exact ⟨⟨h1.keep hg (fun a ha => by have := h2 a ha; simp only [ne_eq, Option.some.injEq]; omega), h2⟩, rows, h3.past hg hb, h4⟩
theorem HasBd.later {W W' : World} {base : Nat} {x : SlotBd} (h : HasBd W base x) (hb : Below W.heap.size W W') : HasBd W' base x := by
  obtain ⟨⟨h1, h2⟩, rows, h3, h4⟩ := h
  exact ⟨⟨h1.on hb, h2⟩, rows, h3.later hb, h4⟩
theorem HasBd.mono {W : World} {base base' : Nat} {x : SlotBd} (h : HasBd W base x) (hb : base' ≤ base) : HasBd W base' x := by
  obtain ⟨⟨h1, h2⟩, rows, h3, h4⟩ := h
  exact ⟨⟨h1, fun a ha => Nat.le_trans hb (h2 a ha)⟩, rows, h3.mono hb, h4⟩
/-- A row of bodies of the call's own; what each holds lies behind the row's bound. -/
structure RowBd (W : World) (base : Nat) (v : Value) (rows : List SlotBd) : Prop where
  own : W.ownsRow base 102 2 v rows.length (rows.flatMap cL)
  has : ∀ x ∈ rows, HasBd W base x
theorem RowBd.nil (W : World) (base : Nat) : RowBd W base (.slice none 0 0) [] := ⟨World.ownsRow_nil W base _ 2, fun x hx => by cases hx⟩
theorem RowBd.slice {W : World} {base : Nat} {v : Value} {rows : List SlotBd} (h : RowBd W base v rows) : ∃ A c, v = .slice A rows.length c := by
  rcases h.own.2 with ⟨rfl, h0⟩ | ⟨g, cap, cur, rfl, _⟩
  · exact ⟨none, 0, by rw [h0]⟩
  · exact ⟨_, cap, rfl⟩
theorem RowBd.lt {W : World} {base : Nat} {v : Value} {rows : List SlotBd} (h : RowBd W base v rows) : ∀ k, v.ownBlock = some k → base ≤ k ∧ k < W.heap.size := World.ownsRow.lt h.own
theorem RowBd.past {W W' : World} {base b : Nat} {v : Value} {rows : List SlotBd} (h : RowBd W base v rows) (hg : W.grownBy W' (some b)) (hb : b < base) : RowBd W' base v rows :=
  ⟨World.ownsRow.kept h.own hg (by
    cases hv : v.ownBlock with
    | none => exact .inl rfl
    | some k => exact .inr (by have := (World.ownsRow.lt h.own k hv).1; simp only [ne_eq, Option.some.injEq]; omega)),
   fun x hx => (h.has x hx).past hg hb⟩
theorem RowBd.later {W W' : World} {base : Nat} {v : Value} {rows : List SlotBd} (h : RowBd W base v rows) (hb : Below W.heap.size W W') : RowBd W' base v rows :=
  ⟨World.ownsRow.kept h.own (gb_of_below none hb) (by cases v.ownBlock with
    | none => exact .inl rfl
    | some k => exact .inr (by simp)), fun x hx => (h.has x hx).later hb⟩
theorem RowBd.alloc {W : World} {base : Nat} {v : Value} {rows : List SlotBd} (h : RowBd W base v rows) (o : Obj) : RowBd (W.alloc o) base v rows := h.later (below_box W o)
theorem RowBd.mono {W : World} {base base' : Nat} {v : Value} {rows : List SlotBd} (h : RowBd W base v rows) (hb : base' ≤ base) : RowBd W base' v rows := by
  obtain ⟨⟨h1, h2⟩, h3⟩ := h
  refine ⟨⟨h1, ?_⟩, fun x hx => (h3 x hx).mono hb⟩
  rcases h2 with h2 | ⟨g, cap, cur, e, hg, r⟩
  · exact .inl h2
  · exact .inr ⟨g, cap, cur, e, Nat.le_trans hb hg, r⟩
/-- The slice at A reads as these bodies, and what each holds lies. -/
def Bds (w : World) (A : Option Addr) (l : List SlotBd) : Prop :=
  ∀ j x, l[j]? = some x → (∃ b off, A = some ⟨b, off, none⟩ ∧ b < w.heap.size ∧ ∀ u, u < 2 → w.cell? ⟨b, off + j * 2 + u, none⟩ = (cL x)[u]?) ∧ Los w x.2.1.1 x.1.ls ∧ Ins w x.2.2.1 x.1.b
theorem Bds.below {w w' : World} {A : Option Addr} {l : List SlotBd} (h : Bds w A l) (hb : Below w.heap.size w w') : Bds w' A l := fun j x hx => by
  obtain ⟨⟨b, off, e, h1, h2⟩, h3, h4⟩ := h j x hx
  exact ⟨⟨b, off, e, Nat.lt_of_lt_of_le h1 hb.size, fun u hu => (hb.cell (p := ⟨b, _, none⟩) h1).trans (h2 u hu)⟩, h3.below hb, h4.below hb⟩
/-- The two cells of one of them, as a walk writes them. -/
abbrev TwoAtB (w : World) (b : Nat) (o : Nat) (x : SlotBd) : Prop := w.cell? ⟨b, o, none⟩ = some (.slice x.2.1.1 x.1.ls.length x.2.1.2) ∧ w.cell? ⟨b, o + 1, none⟩ = some (.slice x.2.2.1 x.1.b.length x.2.2.2)
theorem Bds.two {w : World} {A : Option Addr} {l : List SlotBd} (h : Bds w A l) {k : Nat} {x : SlotBd} (hx : l[k]? = some x) : ∃ b off, A = some ⟨b, off, none⟩ ∧ b < w.heap.size ∧ TwoAtB w b (off + k * 2) x := by
  obtain ⟨⟨b, off, e, h1, h2⟩, _⟩ := h k x hx
  exact ⟨b, off, e, h1, h2 0 (by omega), h2 1 (by omega)⟩
end Go.Proofs.YtkleadjkebofpaaGreatDoor

/- Data segments as plain data; datas.Right; creelref15.Count, Right. -/
namespace Go.Proofs.YtkleadjkebofpaaGreatDoor
open Go.RowKit
set_option linter.unusedVariables false
set_option maxRecDepth 100000

/-- A data segment: its offset, its bytes. -/
structure Da where
  i : I
  bs : List UInt8
/-- Its cells, its labels at A. -/
abbrev daC (x : Da) (A : Option Addr) (c : Nat) : Array Value := #[.int .u8 x.i.op.toNat, .int .u64 x.i.a, .int .u64 x.i.b, .slice A x.i.l.length c, .string (S x.bs)]
abbrev FiveDa (W : World) (b : Nat) (x : Da) (A : Option Addr) (c : Nat) : Prop :=
  W.cell? ⟨b, 0, none⟩ = some (.int .u8 x.i.op.toNat) ∧ W.cell? ⟨b, 1, none⟩ = some (.int .u64 x.i.a) ∧ W.cell? ⟨b, 2, none⟩ = some (.int .u64 x.i.b) ∧ W.cell? ⟨b, 3, none⟩ = some (.slice A x.i.l.length c) ∧ W.cell? ⟨b, 4, none⟩ = some (.string (S x.bs))
theorem Whole.da {w : World} {b : Nat} {t : TypeId} {x : Da} {A : Option Addr} {c : Nat} (h : Whole w b t (daC x A c)) : FiveDa w b x A c := ⟨h.cell 0, h.cell 1, h.cell 2, h.cell 3, h.cell 4⟩
section
variable {B W W' : World} {b : Nat} {x : Da} {A : Option Addr} {c : Nat}
end
end Go.Proofs.YtkleadjkebofpaaGreatDoor

/- wire.Sized of a string, datas.Put. -/
namespace Go.Proofs.YtkleadjkebofpaaGreatDoor
open Go.RowKit
set_option linter.unusedVariables false
set_option maxRecDepth 100000

end Go.Proofs.YtkleadjkebofpaaGreatDoor

/- Globals that lie somewhere; rows of segments of the call's own. -/
namespace Go.Proofs.YtkleadjkebofpaaGreatDoor
open Go.RowKit
set_option linter.unusedVariables false
set_option maxRecDepth 100000

/-- A global and where its labels lie. -/
abbrev SlotDa := Da × Option Addr × Nat
abbrev hC (x : SlotDa) : Array Value := daC x.1 x.2.1 x.2.2
abbrev hV (x : SlotDa) : Value := .agg (hC x)
def hL9 (x : SlotDa) : List Value := (hC x).toList
/-- A row of segments of the call's own. -/
def RowDa (W : World) (base : Nat) (v : Value) (rows : List SlotDa) : Prop := W.ownsRow base 106 5 v rows.length (rows.flatMap hL9)
theorem RowDa.nil (W : World) (base : Nat) : RowDa W base (.slice none 0 0) [] := World.ownsRow_nil W base _ 5
theorem RowDa.slice {W : World} {base : Nat} {v : Value} {rows : List SlotDa} (h : RowDa W base v rows) : ∃ A c, v = .slice A rows.length c := by
  rcases h.2 with ⟨rfl, h0⟩ | ⟨g, cap, cur, rfl, _⟩
  · exact ⟨none, 0, by rw [h0]⟩
  · exact ⟨_, cap, rfl⟩
theorem RowDa.past {W W' : World} {base b : Nat} {v : Value} {rows : List SlotDa} (h : RowDa W base v rows) (hg : W.grownBy W' (some b)) (hb : b < base) : RowDa W' base v rows :=
  World.ownsRow.kept h hg (by
    cases hv : v.ownBlock with
    | none => exact .inl rfl
    | some k => exact .inr (by have := (World.ownsRow.lt h k hv).1; simp only [ne_eq, Option.some.injEq]; omega))
theorem RowDa.later {W W' : World} {base : Nat} {v : Value} {rows : List SlotDa} (h : RowDa W base v rows) (hb : Below W.heap.size W W') : RowDa W' base v rows :=
  World.ownsRow.kept h (gb_of_below none hb) (by cases v.ownBlock with
    | none => exact .inl rfl
    | some k => exact .inr (by simp))
theorem RowDa.alloc {W : World} {base : Nat} {v : Value} {rows : List SlotDa} (h : RowDa W base v rows) (o : Obj) : RowDa (W.alloc o) base v rows := World.ownsRow.alloc h o
theorem RowDa.mono {W : World} {base base' : Nat} {v : Value} {rows : List SlotDa} (h : RowDa W base v rows) (hb : base' ≤ base) : RowDa W base' v rows := by
  obtain ⟨h1, h2⟩ := h
  refine ⟨h1, ?_⟩
  rcases h2 with h2 | ⟨g, cap, cur, e, hg, r⟩
  · exact .inl h2
  · exact .inr ⟨g, cap, cur, e, Nat.le_trans hb hg, r⟩
/-- Nothing old has turned, and nothing of the row's own is lost. -/
theorem RowDa.below {w W W' : World} {base : Nat} {v : Value} {rows : List SlotDa} (h : RowDa W base v rows) (hB : base ≤ W.heap.size) (hg : W.grownBy W' v.ownBlock) : Below base W W' :=
  Below.grown (Below.refl _ _) hg hB (fun k hk => (World.ownsRow.lt h k hk).1)

/-- The slice at A reads as these datas. -/
def Das (w : World) (A : Option Addr) (l : List SlotDa) : Prop :=
  ∀ j x, l[j]? = some x → ∃ b off, A = some ⟨b, off, none⟩ ∧ b < w.heap.size ∧ ∀ u, u < 5 → w.cell? ⟨b, off + j * 5 + u, none⟩ = (hL9 x)[u]?
theorem Das.below {w w' : World} {A : Option Addr} {l : List SlotDa} (h : Das w A l) (hb : Below w.heap.size w w') : Das w' A l := fun j x hx => by
  obtain ⟨b, off, e, h1, h2⟩ := h j x hx
  exact ⟨b, off, e, Nat.lt_of_lt_of_le h1 hb.size, fun u hu => (hb.cell (p := ⟨b, _, none⟩) h1).trans (h2 u hu)⟩
end Go.Proofs.YtkleadjkebofpaaGreatDoor

/- Rows of strings of the call's own; strings that lie somewhere. -/
namespace Go.Proofs.YtkleadjkebofpaaGreatDoor
open Go.RowKit
set_option linter.unusedVariables false
set_option maxRecDepth 100000

/-- A row of strings of the call's own. -/
def RowT (W : World) (base : Nat) (v : Value) (rows : List (List UInt8)) : Prop := W.ownsRow base 9 1 v rows.length (rows.map fun s => .string (S s))
theorem RowT.nil (W : World) (base : Nat) : RowT W base (.slice none 0 0) [] := World.ownsRow_nil W base _ 1
theorem RowT.slice {W : World} {base : Nat} {v : Value} {rows : List (List UInt8)} (h : RowT W base v rows) : ∃ A c, v = .slice A rows.length c := by
  rcases h.2 with ⟨rfl, h0⟩ | ⟨g, cap, cur, rfl, _⟩
  · exact ⟨none, 0, by rw [h0]⟩
  · exact ⟨_, cap, rfl⟩
theorem RowT.later {W W' : World} {base : Nat} {v : Value} {rows : List (List UInt8)} (h : RowT W base v rows) (hb : Below W.heap.size W W') : RowT W' base v rows :=
  World.ownsRow.kept h (gb_of_below none hb) (by cases v.ownBlock with
    | none => exact .inl rfl
    | some k => exact .inr (by simp))
theorem RowT.alloc {W : World} {base : Nat} {v : Value} {rows : List (List UInt8)} (h : RowT W base v rows) (o : Obj) : RowT (W.alloc o) base v rows := World.ownsRow.alloc h o
/-- Nothing old has turned, and nothing of the row's own is lost. -/
theorem RowT.below {w W W' : World} {base : Nat} {v : Value} {rows : List (List UInt8)} (h : RowT W base v rows) (hB : base ≤ W.heap.size) (hg : W.grownBy W' v.ownBlock) : Below base W W' :=
  Below.grown (Below.refl _ _) hg hB (fun k hk => (World.ownsRow.lt h k hk).1)
/-- The slice at A reads as these strings. -/
def SlT (w : World) (A : Option Addr) (l : List (List UInt8)) : Prop :=
  ∀ j s, l[j]? = some s → ∃ b off, A = some ⟨b, off, none⟩ ∧ b < w.heap.size ∧ w.cell? ⟨b, off + j, none⟩ = some (.string (S s))
theorem SlT.below {w w' : World} {A : Option Addr} {l : List (List UInt8)} (h : SlT w A l) (hb : Below w.heap.size w w') : SlT w' A l := fun j x hx => by
  obtain ⟨b, off, e, h1, h2⟩ := h j x hx
  exact ⟨b, off, e, Nat.lt_of_lt_of_le h1 hb.size, (hb.cell (p := ⟨b, _, none⟩) h1).trans h2⟩
end Go.Proofs.YtkleadjkebofpaaGreatDoor
