/- nest's close and add. -/
import Derived.Test.YtkleadjkebofpaaGreatDoorZs03
import Derived.RegionTactic
import Derived.OwnWalk
import Derived.Test.YtkleadjkebofpaaGreatDoorZs02
import Derived.Shelf.Unicode.WordAny
import Derived.Lib.ValidAsc
import Derived.Laws.BitsAllLaws
import Derived.Deep.QuietTactic
import Derived.BigQuiet
import Derived.Deep.LoopGhost
import Derived.Deep.DeepMust
import Derived.Deep.CutBlock
import Derived.Deep.DeepCutAuto
import Derived.Laws.IdiomStrings
import Derived.Test.YtkleadjkebofpaaGreatDoorZs01
import Derived.Lib.SlBytesConst
import Derived.StillTailTactics
namespace Go.Proofs.YtkleadjkebofpaaGreatDoor
open Go.RowKit
set_option linter.unusedVariables false
set_option maxRecDepth 100000

/-- What a step leaves: nest's two cells, the row of open blocks. -/
def Moved (nb base : Nat) (v : Value) (st : List UInt8) (en : Bool) (W W' : World) : Prop :=
  ∃ v' Wm, Whole W' nb 185 #[v', .bool en] ∧ Row W' base v' st ∧ W.grownBy Wm v.ownBlock ∧ Wm.grownBy W' (some nb)
section
variable {W : World} {nb base : Nat} {v : Value} {st : List UInt8}
theorem Moved.after {W1 W' : World} {en : Bool} (h : Moved nb base v st en W1 W') (hb : Below W.heap.size W W1) : Moved nb base v st en W W' := by
  obtain ⟨v', Wm, h1, h2, h3, h4⟩ := h
  exact ⟨v', Wm, h1, h2, gb_trans (gb_of_below _ hb) h3, h4⟩
end
end Go.Proofs.YtkleadjkebofpaaGreatDoor

/- slices.Equal of labels; instr.Same; the reference's Same. -/
namespace Go.Proofs.YtkleadjkebofpaaGreatDoor
open Go.RowKit
set_option linter.unusedVariables false
set_option maxRecDepth 100000

def LiesL (w : World) (A : Option Addr) (l : List Int) : Prop := Lies w w.heap.size A (cells32 l)
theorem LiesL.below {w w' : World} {A : Option Addr} {l : List Int} (h : LiesL w A l) (hb : Below w.heap.size w w') : LiesL w' A l := (Lies.below h hb (Nat.le_refl _)).more hb.size
theorem LiesL.at {w : World} {A : Option Addr} {l : List Int} (h : LiesL w A l) {i : Nat} {d : Int} (hd : l[i]? = some d) : ∃ b off, A = some ⟨b, off, none⟩ ∧ b < w.heap.size ∧ w.cell? ⟨b, off + i, none⟩ = some (.int .u32 d) := by
  obtain ⟨b, off, e, hb, hc⟩ := h i _ (cells32_get hd)
  exact ⟨b, off, e, hb, hc⟩
/-- The first k of two lists are the same. -/
def Eqs (a b : List Int) (k : Nat) : Prop := ∀ j, j < k → a[j]? = b[j]?
theorem Eqs.all {a b : List Int} {n : Nat} (h : Eqs a b n) (ha : a.length = n) (hb : b.length = n) : a = b := by
  apply List.ext_getElem?
  intro j
  rcases Nat.lt_or_ge j n with g | g
  · exact h j g
  · rw [List.getElem?_eq_none (by omega), List.getElem?_eq_none (by omega)]
end Go.Proofs.YtkleadjkebofpaaGreatDoor

/- A list of instructions that lies somewhere; Shape, the reference's Walk and Shape. -/
namespace Go.Proofs.YtkleadjkebofpaaGreatDoor
open Go.RowKit
set_option linter.unusedVariables false
set_option maxRecDepth 100000

/-- The instructions lie at A, one behind the other, each with its labels. -/
def Ins (w : World) (A : Option Addr) (l : List I) : Prop :=
  ∀ j i, l[j]? = some i → ∃ b off B c, A = some ⟨b, off, none⟩ ∧ b < w.heap.size ∧ (w.cell? ⟨b, off + j * 4, none⟩ = some (.int .u8 i.op.toNat) ∧ w.cell? ⟨b, off + j * 4 + 1, none⟩ = some (.int .u64 i.a) ∧
    w.cell? ⟨b, off + j * 4 + 2, none⟩ = some (.int .u64 i.b) ∧ w.cell? ⟨b, off + j * 4 + 3, none⟩ = some (.slice B i.l.length c)) ∧ LiesL w B i.l
theorem Ins.below {w w' : World} {A : Option Addr} {l : List I} (h : Ins w A l) (hb : Below w.heap.size w w') : Ins w' A l := fun j i hi => by
  obtain ⟨b, off, B, c, e, h1, ⟨k0, k1, k2, k3⟩, hl⟩ := h j i hi
  exact ⟨b, off, B, c, e, Nat.lt_of_lt_of_le h1 hb.size, ⟨(hb.cell (p := ⟨b, _, none⟩) h1).trans k0, (hb.cell (p := ⟨b, _, none⟩) h1).trans k1, (hb.cell (p := ⟨b, _, none⟩) h1).trans k2, (hb.cell (p := ⟨b, _, none⟩) h1).trans k3⟩, hl.below hb⟩
def opsOf (l : List I) : List UInt8 := l.map (·.op)
theorem ops_drop {l : List I} {k : Nat} {i : I} (h : l[k]? = some i) : (opsOf l).drop k = i.op :: (opsOf l).drop (k + 1) := by
  unfold opsOf
  have hk := (List.getElem?_eq_some_iff.1 h)
  obtain ⟨h1, h2⟩ := hk
  rw [List.drop_eq_getElem_cons (by simpa using h1)]
  simp [h2]
/-- The total, seen from where the walk stands. -/
def Stand (l : List I) (k : Nat) (st : List UInt8) (en : Bool) : Prop := shapeGo [] (opsOf l) = (if en then ((opsOf l).drop k).isEmpty else shapeGo st ((opsOf l).drop k))
theorem Stand.step {l : List I} {k : Nat} {st : List UInt8} {i : I} (h : Stand l k st false) (hi : l[k]? = some i) : match addZ st i.op with
    | none => shapeGo [] (opsOf l) = false
    | some (st', en) => Stand l (k + 1) st' en := by
  unfold Stand at h
  rw [if_neg (by simp), ops_drop hi, shape_add] at h
  cases ha : addZ st i.op with
  | none => rw [ha] at h; exact h
  | some q =>
    obtain ⟨st', en⟩ := q
    rw [ha] at h
    cases en
    · exact h
    · exact h
theorem Moved.below {nb base : Nat} {v : Value} {st st0 : List UInt8} {en : Bool} {W W' : World} (h : Moved nb base v st en W W') (hr : Row W base v st0) (hb : base ≤ W.heap.size) (hnb : base ≤ nb) : Below base W W' := by
  obtain ⟨v', Wm, h1, h2, h3, h4⟩ := h
  have b1 : Below base W Wm := Below.grown (Below.refl _ _) h3 hb (fun k hk => (World.ownsRow.lt hr k hk).1)
  exact Below.grown b1 h4 (Nat.le_trans hb h3.size) (fun k hk => by injection hk with hk; omega)
end Go.Proofs.YtkleadjkebofpaaGreatDoor

/- Instructions in a row of the call's own; blocks that are apart by their types; what is read lies behind a bound. -/
namespace Go.Proofs.YtkleadjkebofpaaGreatDoor
open Go.RowKit
set_option linter.unusedVariables false
set_option maxRecDepth 100000

abbrev Slot := I × Option Addr × Nat
def rowC (x : Slot) : List Value := [.int .u8 x.1.op.toNat, .int .u64 x.1.a, .int .u64 x.1.b, .slice x.2.1 x.1.l.length x.2.2]
def RowI (W : World) (base : Nat) (v : Value) (rows : List Slot) : Prop := W.ownsRow base 85 4 v rows.length (rows.flatMap rowC)
theorem own_own {W : World} {b b' : Nat} {e e' : TypeId} {s s' n n' : Nat} {v v' : Value} {xs xs' : List Value} (h : W.ownsRow b e s v n xs) (h' : W.ownsRow b' e' s' v' n' xs') (ht : e ≠ e') : v.ownBlock = none ∨ v.ownBlock ≠ v'.ownBlock := by
  rcases h.2 with ⟨rfl, _⟩ | ⟨g, cap, cur, rfl, _, hg, _⟩
  · exact .inl rfl
  · exact .inr (own_whole h' (show Whole W g e cur from hg) ht)
/-- Instructions that lie behind a bound. -/
def InsF (lo : Nat) (w : World) (A : Option Addr) (l : List I) : Prop :=
  ∀ j i, l[j]? = some i → ∃ b off B c, A = some ⟨b, off, none⟩ ∧ lo ≤ b ∧ b < w.heap.size ∧ (w.cell? ⟨b, off + j * 4, none⟩ = some (.int .u8 i.op.toNat) ∧ w.cell? ⟨b, off + j * 4 + 1, none⟩ = some (.int .u64 i.a) ∧
    w.cell? ⟨b, off + j * 4 + 2, none⟩ = some (.int .u64 i.b) ∧ w.cell? ⟨b, off + j * 4 + 3, none⟩ = some (.slice B i.l.length c)) ∧ LiesL w B i.l ∧ ∀ a, B = some a → lo ≤ a.block
theorem InsF.mono {lo lo' : Nat} {w : World} {A : Option Addr} {l : List I} (h : InsF lo w A l) (hle : lo' ≤ lo) : InsF lo' w A l := fun j i hi => by
  obtain ⟨b, off, B, c, e, h1, h2, hk, hl, hf⟩ := h j i hi
  exact ⟨b, off, B, c, e, by omega, h2, hk, hl, fun a ha => Nat.le_trans hle (hf a ha)⟩
theorem InsF.keep {lo : Nat} {w w' : World} {A : Option Addr} {l : List I} {q : Nat} (h : InsF lo w A l) (hg : w.grownBy w' (some q)) (hq : q < lo) : InsF lo w' A l := fun j i hi => by
  obtain ⟨b, off, B, c, e, h1, h2, ⟨k0, k1, k2, k3⟩, hl, hf⟩ := h j i hi
  have hc : ∀ o, w'.cell? ⟨b, o, none⟩ = w.cell? ⟨b, o, none⟩ := fun o => by
    unfold World.cell?
    rw [hg.block b h2 (by simp only [ne_eq, Option.some.injEq]; omega)]
  exact ⟨b, off, B, c, e, h1, Nat.lt_of_lt_of_le h2 hg.size, ⟨(hc _).trans k0, (hc _).trans k1, (hc _).trans k2, (hc _).trans k3⟩, Lies.keep hl hg (fun a ha => by have := hf a ha; omega), hf⟩
end Go.Proofs.YtkleadjkebofpaaGreatDoor

/- bytes.Clone of any slice; Scanner.Bytes; wire.Part of any bytes (the same as in sect/Name, sect/Next, sect/NextB). -/
namespace Go.Proofs.YtkleadjkebofpaaGreatDoor
open Go.RowKit Go.Lib
set_option linter.unusedVariables false
set_option maxRecDepth 100000

theorem Row.past {w w' : World} {B b : Nat} {v : Value} {xs : List UInt8} (h : Row w B v xs) (hg : w.grownBy w' (some b)) (hb : b < B) : Row w' B v xs :=
  World.ownsRow.kept h hg (by
    cases hv : v.ownBlock with
    | none => exact .inl rfl
    | some k => exact .inr (by have := (World.ownsRow.lt h k hv).1; simp only [ne_eq, Option.some.injEq]; omega))
theorem Row.slice {w : World} {B : Nat} {v : Value} {xs : List UInt8} (h : Row w B v xs) : ∃ A c, v = .slice A xs.length c := by
  obtain ⟨A, c, e, _⟩ := lies_own h
  exact ⟨A, c, e⟩
end Go.Proofs.YtkleadjkebofpaaGreatDoor

/- unicode/utf8.word at a slice of bytes; cuts of a slice whose capacity is its length; what is left of a text. -/
namespace Go.Proofs.YtkleadjkebofpaaGreatDoor
set_option linter.unusedVariables false
set_option maxRecDepth 100000
open Go.RowKit Go.Lib

/-- The bytes of s lie at b, from off on. -/
def Bya (w : World) (b off : Nat) (s : ByteArray) : Prop := ∀ j, j < s.size → w.cell? ⟨b, off + j, none⟩ = some (.int .u8 ((s.get! j).toNat : Int))
theorem Bya.below {w w' : World} {b off : Nat} {s : ByteArray} (h : Bya w b off s) (hb : Below w.heap.size w w') (hlt : b < w.heap.size) : Bya w' b off s := fun j hj =>
  (hb.cell (p := ⟨b, off + j, none⟩) hlt).trans (h j hj)
/-- One byte, as a number. -/
theorem Bya.byte {w : World} {b off : Nat} {s : ByteArray} (h : Bya w b off s) (j : Nat) (hj : j < s.size) : ∃ a : Nat, a < 256 ∧ (s.get! j).toNat = a ∧ w.cell? ⟨b, off + j, none⟩ = some (.int .u8 (a : Int)) :=
  ⟨_, (s.get! j).toNat_lt, rfl, h j hj⟩

theorem elemB : Tryz.prog.elem 45 = 5 := by kernel_rfl
/-- p[k:] where the capacity is the length. -/
theorem run_cut (s : ByteArray) (k : Nat) (c : Int) (hc : c = (k : Int)) (hk : k ≤ s.size) (b o : Nat) :
    ∃ o', (∀ w, (Instr.slice 45 (.slice (some ⟨b, o, none⟩) s.size s.size) (some (.int .i64 c)) none none).run Tryz.prog w = .ok (.slice (some ⟨b, o', none⟩) (s.extract k s.size).size (s.extract k s.size).size) w) ∧
      ∀ w, Bya w b o s → Bya w b o' (s.extract k s.size) := by
  subst hc
  have hz : (s.extract k s.size).size = s.size - k := Lib.ext_size s k
  have h : ∀ w, _ := fun w => run_slice_l (P := Tryz.prog) w 45 (some ⟨b, o, none⟩) s.size s.size Tryz.underlying45 .i64 (k : Int) (by omega) (by omega)
  by_cases hks : s.size = k
  · refine ⟨o, fun w => ?_, fun w _ j hj => by rw [hz] at hj; omega⟩
    rw [h w, elemB, Tryz.sizeOf5]
    simp [sliced, hks]
  · refine ⟨o + k, fun w => ?_, fun w hp j hj => ?_⟩
    · rw [h w, elemB, Tryz.sizeOf5]
      simp [sliced, hks, hz, Go.WideShapes.add_plain]
    · rw [hz] at hj
      rw [Nat.add_assoc, hp (k + j) (by omega), Lib.tail_get!]
/-- What is left to read: t, at o; and what it answers. -/
structure Rest (w : World) (b o : Nat) (t : ByteArray) (ans : Bool) : Prop where
  lies : Bya w b o t
  same : validD t.data.toList = ans
  most : t.size ≤ 40000000
/-- p[k:] at t is t2, at o2. -/
abbrev Cuts (b o : Nat) (t : ByteArray) (k : Int) (o2 : Nat) (t2 : ByteArray) : Prop := ∀ w, (Instr.slice 45 (.slice (some ⟨b, o, none⟩) t.size t.size) (some (.int .i64 k)) none none).run Tryz.prog w = .ok (.slice (some ⟨b, o2, none⟩) t2.size t2.size) w

section
variable {w wq : World} {b o : Nat} {t : ByteArray} {ans : Bool}
theorem Rest.cut (h : Rest w b o t ans) (k : Nat) (c : Int) (hc : c = (k : Int)) (hk : k ≤ t.size) (hv : validD (t.extract k t.size).data.toList = validD t.data.toList) :
    ∃ o' t', Cuts b o t c o' t' ∧ Rest w b o' t' ans ∧ t'.size + k = t.size := by
  obtain ⟨o', h1, h2⟩ := run_cut t k c hc hk b o
  have hz : (t.extract k t.size).size = t.size - k := Lib.ext_size t k
  exact ⟨o', _, h1, ⟨h2 w h.lies, hv.trans h.same, by have := h.most; omega⟩, by omega⟩
theorem Rest.skip (h : Rest w b o t ans) (k : Nat) (c : Int) (hc : c = (k : Int)) (hk : k ≤ t.size) (ha : Asc t k) : ∃ o' t', Cuts b o t c o' t' ∧ Rest w b o' t' ans ∧ t'.size + k = t.size :=
  h.cut k c hc hk (valid_skip t k ha)
end
end Go.Proofs.YtkleadjkebofpaaGreatDoor

/- unicode/utf8.Valid at a slice of bytes. -/
namespace Go.Proofs.YtkleadjkebofpaaGreatDoor
set_option maxRecDepth 100000
open Go.RowKit Go.Lib
set_option linter.unusedVariables false

end Go.Proofs.YtkleadjkebofpaaGreatDoor

/- The walk of UtfSigns. -/
namespace Go.Proofs.YtkleadjkebofpaaGreatDoor
set_option linter.unusedVariables false
set_option maxRecDepth 100000
open Go.RowKit Go.Lib

end Go.Proofs.YtkleadjkebofpaaGreatDoor

/- bytes.Clone of any slice; take with its block; Scanner.At, Bytes, Name. -/
namespace Go.Proofs.YtkleadjkebofpaaGreatDoor
open Go.RowKit Go.Lib
set_option linter.unusedVariables false
set_option maxRecDepth 100000

/-- The tables of unicode/utf8 lie below a block. -/
def TbN (p : Nat) (w : World) : Prop := TabsU w ∧ 0 < p ∧ 1 < p ∧ p ≤ w.heap.size
theorem TbN.keep {p q : Nat} {w w' : World} (h : TbN p w) (hg : w.grownBy w' (some q)) (hq : p ≤ q) : TbN p w' := by
  obtain ⟨⟨h1, h2⟩, h3, h4, h5⟩ := h
  have key : ∀ b o, b < p → w'.cell? ⟨b, o, none⟩ = w.cell? ⟨b, o, none⟩ := fun b o hb => by
    unfold World.cell?
    rw [hg.block b (by omega) (by simp only [ne_eq, Option.some.injEq]; omega)]
  refine ⟨⟨fun c hc => (key _ _ h3).trans (h1 c hc), fun i hi => ⟨(key _ _ h4).trans (h2 i hi).1, (key _ _ h4).trans (h2 i hi).2⟩⟩, h3, h4, Nat.le_trans h5 hg.size⟩
theorem TbN.below {p : Nat} {w w' : World} (h : TbN p w) (hb : Below w.heap.size w w') : TbN p w' := h.keep (gb_of_below (some w.heap.size) hb) h.2.2.2
theorem TbN.more {p q : Nat} {w : World} (h : TbN p w) (hq : p ≤ q) (hz : q ≤ w.heap.size) : TbN q w := ⟨h.1, by have := h.2.1; omega, by have := h.2.2.1; omega, hz⟩

end Go.Proofs.YtkleadjkebofpaaGreatDoor

/- sect.number, contents, Next. -/
namespace Go.Proofs.YtkleadjkebofpaaGreatDoor
open Go.RowKit Go.Lib
set_option linter.unusedVariables false
set_option maxRecDepth 100000

/-- A section: its number, its name, its bytes, where these begin. -/
structure Sct where
  id : UInt8
  name : List UInt8
  body : List UInt8
  off : Int
end Go.Proofs.YtkleadjkebofpaaGreatDoor

/- Single steps of a region that draws its order: what makes memory or writes. -/
namespace Go.Proofs.YtkleadjkebofpaaGreatDoor
open Go.RowKit
set_option linter.unusedVariables false

theorem Lies.put {w : World} {B g bb : Nat} {vs : List Value} (h : Lies w B (some ⟨g, 0, none⟩) vs) (hne : g ≠ bb) (i : Nat) (v : Value) : Lies (w.setCell ⟨bb, i, none⟩ v) B (some ⟨g, 0, none⟩) vs := fun j u hu => by
  obtain ⟨b, off, e, h1, h2⟩ := h j u hu
  injection e with e
  injection e with e1 e2
  subst e1; subst e2
  refine ⟨g, 0, rfl, h1, ?_⟩
  rw [← h2]
  exact World.cell?_of_block (a := ⟨g, 0 + j, none⟩) (heap_setCell_other w ⟨bb, i, none⟩ g v hne)
section
variable {w : World} {ops : Array Oper} {o : Oper} {a : Act} {K : Act → World → Prop} {Q : Exit → Act → World → Prop} {E : Prop}
theorem step_value {v : Value} {w' : World} (hgd : o.guard = none) (h : (execOp a.eval o).run Tryz.prog w = .ok (.value v) w') (hK : K (a.put o.dst v) w') :
    if Region.wanted o (yielded ops a.tmps) = true then Oper.wp Tryz.prog o a w K Q else E := by
  have hw : Region.wanted o (yielded ops a.tmps) = true := by simp [Region.wanted, hgd]
  rw [if_pos hw]
  unfold Oper.wp
  rw [h]
  exact hK
end
end Go.Proofs.YtkleadjkebofpaaGreatDoor

/- sect.Next of any bytes. -/
namespace Go.Proofs.YtkleadjkebofpaaGreatDoor
open Go.RowKit Go.Lib
set_option linter.unusedVariables false
set_option maxRecDepth 100000

section
variable {w W W' : World} {p q P X : Nat} {l part : List UInt8} {k j : Nat} {x : Array Value}
end
end Go.Proofs.YtkleadjkebofpaaGreatDoor

/- Sections in a row of the call's own; sect.rest of any bytes. -/
namespace Go.Proofs.YtkleadjkebofpaaGreatDoor
open Go.RowKit Go.Lib
set_option linter.unusedVariables false
set_option maxRecDepth 100000

theorem infoSec : (Tryz.prog.info? 73).map (fun i => (i.zero, i.size, i.bytes)) = some (some (.agg #[.int .u8 0, .string { data := #[] }, .slice none 0 0, .int .i64 0]), 4, 56) := by kernel_rfl
abbrev SSlot := Sct × Option Addr × Nat
def rowS (x : SSlot) : List Value := [.int .u8 x.1.id.toNat, .string (S x.1.name), .slice x.2.1 x.1.body.length x.2.2, .int .i64 x.1.off]
def RowS (W : World) (base : Nat) (v : Value) (rows : List SSlot) : Prop := W.ownsRow base 73 4 v rows.length (rows.flatMap rowS)
/-- Each section's bytes lie in a row of their own. -/
def AllB (W : World) (base : Nat) (rows : List SSlot) : Prop := ∀ x ∈ rows, Row W base (.slice x.2.1 x.1.body.length x.2.2) x.1.body
theorem RowS.nil (W : World) (base : Nat) : RowS W base (.slice none 0 0) [] := World.ownsRow_nil W base _ 4
theorem RowS.slice {W : World} {base : Nat} {v : Value} {rows : List SSlot} (h : RowS W base v rows) : ∃ A c, v = .slice A rows.length c := by
  rcases h.2 with ⟨rfl, h0⟩ | ⟨g, cap, cur, rfl, _⟩
  · exact ⟨none, 0, by rw [h0]⟩
  · exact ⟨_, cap, rfl⟩
theorem RowS.past {W W' : World} {base b : Nat} {v : Value} {rows : List SSlot} (h : RowS W base v rows) (hg : W.grownBy W' (some b)) (hb : b < base) : RowS W' base v rows :=
  World.ownsRow.kept h hg (by
    cases hv : v.ownBlock with
    | none => exact .inl rfl
    | some k => exact .inr (by have := (World.ownsRow.lt h k hv).1; simp only [ne_eq, Option.some.injEq]; omega))
theorem RowS.alloc {W : World} {base : Nat} {v : Value} {rows : List SSlot} (h : RowS W base v rows) (o : Obj) : RowS (W.alloc o) base v rows := World.ownsRow.alloc h o
theorem RowS.mono {W : World} {base base' : Nat} {v : Value} {rows : List SSlot} (h : RowS W base v rows) (hb : base' ≤ base) : RowS W base' v rows := by
  obtain ⟨h1, h2⟩ := h
  refine ⟨h1, ?_⟩
  rcases h2 with h2 | ⟨g, cap, cur, e, hg, r⟩
  · exact .inl h2
  · exact .inr ⟨g, cap, cur, e, Nat.le_trans hb hg, r⟩
theorem AllB.past {W W' : World} {base b : Nat} {rows : List SSlot} (h : AllB W base rows) (hg : W.grownBy W' (some b)) (hb : b < base) : AllB W' base rows := fun x hx => (h x hx).past hg hb
theorem AllB.alloc {W : World} {base : Nat} {rows : List SSlot} (h : AllB W base rows) (o : Obj) : AllB (W.alloc o) base rows := fun x hx => (h x hx).alloc o
theorem AllB.row {W W' : World} {base : Nat} {v : Value} {rows all : List SSlot} (h : AllB W base rows) (hr : RowS W base v all) (hg : W.grownBy W' v.ownBlock) : AllB W' base rows := fun x hx =>
  World.ownsRow.kept (h x hx) hg (own_own (h x hx) hr (by decide))
end Go.Proofs.YtkleadjkebofpaaGreatDoor

/- The walk of sect.rest. -/
namespace Go.Proofs.YtkleadjkebofpaaGreatDoor
open Go.RowKit Go.Lib
set_option linter.unusedVariables false
set_option maxRecDepth 100000

end Go.Proofs.YtkleadjkebofpaaGreatDoor

/- abort.Value of a function that ends well, whatever it hands back: []sect.Section. Value of one that aborts. -/
namespace Go.Proofs.YtkleadjkebofpaaGreatDoor
open Go.RowKit
set_option linter.unusedVariables false
set_option maxRecDepth 100000

section
variable {T : (Option Addr × Nat × Nat) → World → Prop}
end
end Go.Proofs.YtkleadjkebofpaaGreatDoor

/- sect.Split of bytes that begin with Head; awake. -/
namespace Go.Proofs.YtkleadjkebofpaaGreatDoor
open Go.RowKit Go.Lib
set_option linter.unusedVariables false
set_option maxRecDepth 100000

/-- What a module begins with. -/
def headL : List UInt8 := [0, 97, 115, 109, 1, 0, 0, 0]
theorem TbN.of {w w' : World} {q : Nat} (h : TabsU w) (hb : Below w.heap.size w w') (hq : w.heap.size ≤ q) (hz : q ≤ w'.heap.size) : TbN q w' := by
  have h1 := block_lt_of_cell (h.1 0 (by omega))
  have h2 := block_lt_of_cell (h.2 0 (by omega)).1
  exact ⟨h.below hb, Nat.lt_of_lt_of_le h1 hq, Nat.lt_of_lt_of_le h2 hq, hz⟩
theorem head_cells : (cells (nums headL)).toArray = #[.int .u8 0, .int .u8 97, .int .u8 115, .int .u8 109, .int .u8 1, .int .u8 0, .int .u8 0, .int .u8 0] := by rfl
end Go.Proofs.YtkleadjkebofpaaGreatDoor

/- slices.Concat of three pieces; sect.size; single steps that make rows of slices. -/
namespace Go.Proofs.YtkleadjkebofpaaGreatDoor
open Go.RowKit
set_option linter.unusedVariables false
set_option maxRecDepth 100000

end Go.Proofs.YtkleadjkebofpaaGreatDoor

/- types.Cut, Zero; creelref04.Cut; types.EncodeGlobal, creelref04.EncodeGlobal. -/
namespace Go.Proofs.YtkleadjkebofpaaGreatDoor
set_option linter.unusedVariables false
set_option maxRecDepth 100000
open Go.RowKit

end Go.Proofs.YtkleadjkebofpaaGreatDoor

/- wire.Size, Name, Kind; small facts on fields. -/
namespace Go.Proofs.YtkleadjkebofpaaGreatDoor
open Go.RowKit Go.Lib
set_option linter.unusedVariables false
set_option maxRecDepth 100000

end Go.Proofs.YtkleadjkebofpaaGreatDoor

/- Imports as plain data; creelref10.Same; imports.ofKind. -/
namespace Go.Proofs.YtkleadjkebofpaaGreatDoor
open Go.RowKit
set_option linter.unusedVariables false
set_option maxRecDepth 100000

/-- An import. -/
structure Im where
  mod : List UInt8
  nam : List UInt8
  kind : UInt8
  typ : UInt32
  mn : UInt32
  mx : UInt32
  bd : Bool
  gt : UInt8
  gm : Bool
  deriving DecidableEq
/-- Its cells. -/
abbrev imC (x : Im) : Array Value := #[.string (S x.mod), .string (S x.nam), .int .u8 x.kind.toNat, .int .u32 x.typ.toNat, .int .u32 x.mn.toNat, .int .u32 x.mx.toNat, .bool x.bd, .int .u8 x.gt.toNat, .bool x.gm]
abbrev imV (x : Im) : Value := .agg (imC x)
abbrev imZ : Im := ⟨[], [], 0, 0, 0, 0, false, 0, false⟩
/-- What lies in a block that holds an import. -/
theorem Whole.im {w : World} {b : Nat} {t : TypeId} {x : Im} (h : Whole w b t (imC x)) :
    w.cell? ⟨b, 0, none⟩ = some (.string (S x.mod)) ∧ w.cell? ⟨b, 1, none⟩ = some (.string (S x.nam)) ∧ w.cell? ⟨b, 2, none⟩ = some (.int .u8 x.kind.toNat) ∧ w.cell? ⟨b, 3, none⟩ = some (.int .u32 x.typ.toNat) ∧
    w.cell? ⟨b, 4, none⟩ = some (.int .u32 x.mn.toNat) ∧ w.cell? ⟨b, 5, none⟩ = some (.int .u32 x.mx.toNat) ∧ w.cell? ⟨b, 6, none⟩ = some (.bool x.bd) ∧ w.cell? ⟨b, 7, none⟩ = some (.int .u8 x.gt.toNat) ∧ w.cell? ⟨b, 8, none⟩ = some (.bool x.gm) :=
  ⟨h.cell 0, h.cell 1, h.cell 2, h.cell 3, h.cell 4, h.cell 5, h.cell 6, h.cell 7, h.cell 8⟩
end Go.Proofs.YtkleadjkebofpaaGreatDoor

/- Imports that lie somewhere; rows of imports of the call's own. -/
namespace Go.Proofs.YtkleadjkebofpaaGreatDoor
open Go.RowKit
set_option linter.unusedVariables false
set_option maxRecDepth 100000

def imL (x : Im) : List Value := (imC x).toList
theorem infoIm : (Tryz.prog.info? 55).map (fun i => (i.zero, i.size, i.bytes)) = some (some (imV imZ), 9, 56) := by kernel_rfl
/-- A row of imports of the call's own. -/
def RowM (W : World) (base : Nat) (v : Value) (rows : List Im) : Prop := W.ownsRow base 55 9 v rows.length (rows.flatMap imL)
theorem RowM.nil (W : World) (base : Nat) : RowM W base (.slice none 0 0) [] := World.ownsRow_nil W base _ 9
theorem RowM.slice {W : World} {base : Nat} {v : Value} {rows : List Im} (h : RowM W base v rows) : ∃ A c, v = .slice A rows.length c := by
  rcases h.2 with ⟨rfl, h0⟩ | ⟨g, cap, cur, rfl, _⟩
  · exact ⟨none, 0, by rw [h0]⟩
  · exact ⟨_, cap, rfl⟩
theorem RowM.past {W W' : World} {base b : Nat} {v : Value} {rows : List Im} (h : RowM W base v rows) (hg : W.grownBy W' (some b)) (hb : b < base) : RowM W' base v rows :=
  World.ownsRow.kept h hg (by
    cases hv : v.ownBlock with
    | none => exact .inl rfl
    | some k => exact .inr (by have := (World.ownsRow.lt h k hv).1; simp only [ne_eq, Option.some.injEq]; omega))
theorem RowM.later {W W' : World} {base : Nat} {v : Value} {rows : List Im} (h : RowM W base v rows) (hb : Below W.heap.size W W') : RowM W' base v rows :=
  World.ownsRow.kept h (gb_of_below none hb) (by cases v.ownBlock with
    | none => exact .inl rfl
    | some k => exact .inr (by simp))
theorem RowM.alloc {W : World} {base : Nat} {v : Value} {rows : List Im} (h : RowM W base v rows) (o : Obj) : RowM (W.alloc o) base v rows := World.ownsRow.alloc h o
theorem RowM.mono {W : World} {base base' : Nat} {v : Value} {rows : List Im} (h : RowM W base v rows) (hb : base' ≤ base) : RowM W base' v rows := by
  obtain ⟨h1, h2⟩ := h
  refine ⟨h1, ?_⟩
  rcases h2 with h2 | ⟨g, cap, cur, e, hg, r⟩
  · exact .inl h2
  · exact .inr ⟨g, cap, cur, e, Nat.le_trans hb hg, r⟩
/-- append of a new block of one import. -/
theorem rowM_new {w : World} {ops : Array Oper} {rest : List Oper} {o : Oper} {a : Act} {Q : Exit → Act → World → Prop} (hgd : o.guard = none) (s x : Operand)
    (ho : o.op = .call { callee := .builtin .append, args := #[s, x], argTypes := #[23, 23] })
    (B : Nat) (v : Value) (l : List Im) (hs : a.eval s = v) (hr : RowM w B v l) (g : Nat) (r : Im) (hx : a.eval x = .slice (some ⟨g, 0, none⟩) 1 1)
    (hg : Whole w g 55 (imC r)) (hb : l.length ≤ 10000) (hB : B ≤ w.heap.size)
    (h : ∀ v' w', RowM w' B v' (l ++ [r]) → w.grownBy w' v.ownBlock → wpList Tryz.prog ops Q rest (a.put o.dst v') w') : wpList Tryz.prog ops Q (o :: rest) a w := by
  obtain ⟨i0, hi0, hz0, hz1, hz2⟩ := info_parts infoIm
  refine wpList_append_own _ hgd s x _ ho B 55 i0 _ 9 56 Tryz.underlying23 hi0 hz0 hz1 hz2 rfl (by omega) v _ _ hs hr ⟨g, 0, none⟩ 1 1 (imL r) hx rfl ?_ ?_ (by unfold maxLen; omega) (by omega) hB (fun v' w' h2 h3 _ => h v' w' ?_ h3)
  · intro j u hu
    rw [Go.WideShapes.add_plain, Nat.zero_add, hg.cell, ← Array.getElem?_toList]
    exact hu
  · intro u hu
    unfold imL at hu
    simp only [List.mem_cons, List.not_mem_nil, or_false] at hu
    rcases hu with rfl | rfl | rfl | rfl | rfl | rfl | rfl | rfl | rfl <;> rfl
  · unfold RowM
    rw [List.length_append, List.flatMap_append]
    simpa using h2
/-- Nothing old has turned, and nothing of the row's own is lost. -/
theorem RowM.below {w W W' : World} {base : Nat} {v : Value} {rows : List Im} (h : RowM W base v rows) (hB : base ≤ W.heap.size) (hg : W.grownBy W' v.ownBlock) : Below base W W' :=
  Below.grown (Below.refl _ _) hg hB (fun k hk => (World.ownsRow.lt h k hk).1)

/-- The slice at A reads as these imports. -/
def Ims (w : World) (A : Option Addr) (l : List Im) : Prop :=
  ∀ j x, l[j]? = some x → ∃ b off, A = some ⟨b, off, none⟩ ∧ b < w.heap.size ∧ ∀ u, u < 9 → w.cell? ⟨b, off + j * 9 + u, none⟩ = (imL x)[u]?
theorem Ims.below {w w' : World} {A : Option Addr} {l : List Im} (h : Ims w A l) (hb : Below w.heap.size w w') : Ims w' A l := fun j x hx => by
  obtain ⟨b, off, e, h1, h2⟩ := h j x hx
  exact ⟨b, off, e, Nat.lt_of_lt_of_le h1 hb.size, fun u hu => (hb.cell (p := ⟨b, _, none⟩) h1).trans (h2 u hu)⟩
/-- The nine cells of one of them, as a walk writes them. -/
theorem Ims.nine {w : World} {A : Option Addr} {l : List Im} (h : Ims w A l) {k : Nat} {x : Im} (hx : l[k]? = some x) : ∃ b off, A = some ⟨b, off, none⟩ ∧ b < w.heap.size ∧
    w.cell? ⟨b, off + k * 9, none⟩ = some (.string (S x.mod)) ∧ w.cell? ⟨b, off + k * 9 + 1, none⟩ = some (.string (S x.nam)) ∧ w.cell? ⟨b, off + k * 9 + 2, none⟩ = some (.int .u8 x.kind.toNat) ∧ w.cell? ⟨b, off + k * 9 + 3, none⟩ = some (.int .u32 x.typ.toNat) ∧
    w.cell? ⟨b, off + k * 9 + 4, none⟩ = some (.int .u32 x.mn.toNat) ∧ w.cell? ⟨b, off + k * 9 + 5, none⟩ = some (.int .u32 x.mx.toNat) ∧ w.cell? ⟨b, off + k * 9 + 6, none⟩ = some (.bool x.bd) ∧ w.cell? ⟨b, off + k * 9 + 7, none⟩ = some (.int .u8 x.gt.toNat) ∧ w.cell? ⟨b, off + k * 9 + 8, none⟩ = some (.bool x.gm) := by
  obtain ⟨b, off, e, h1, h2⟩ := h k x hx
  exact ⟨b, off, e, h1, h2 0 (by omega), h2 1 (by omega), h2 2 (by omega), h2 3 (by omega), h2 4 (by omega), h2 5 (by omega), h2 6 (by omega), h2 7 (by omega), h2 8 (by omega)⟩
theorem flatM_get : ∀ (l : List Im) (j : Nat) (x : Im) (u : Nat), l[j]? = some x → u < 9 → (l.flatMap imL)[j * 9 + u]? = (imL x)[u]?
  | [], j, x, u, h, _ => by cases h
  | y :: l, 0, x, u, h, hu => by
    injection h with h
    subst h
    rw [List.flatMap_cons, Nat.zero_mul, Nat.zero_add, List.getElem?_append_left (by show u < 9; exact hu)]
  | y :: l, j + 1, x, u, h, hu => by
    rw [List.flatMap_cons, List.getElem?_append_right (by show 9 ≤ _; omega)]
    have e : (j + 1) * 9 + u - (imL y).length = j * 9 + u := by show (j + 1) * 9 + u - 9 = _; omega
    rw [e]
    exact flatM_get l j x u h hu
/-- What a row of imports reads as. -/
theorem RowM.ims {W : World} {base : Nat} {A : Option Addr} {n c : Nat} {rows : List Im} (h : RowM W base (.slice A n c) rows) : Ims W A rows := fun j x hx => by
  have hj := (List.getElem?_eq_some_iff.1 hx).1
  rcases h.2 with ⟨_, h0⟩ | ⟨g, cap, cur, e, _, hg, _, _, _, ht⟩
  · omega
  · injection e with e1 e2 e3
    exact ⟨g, 0, e1, (Array.getElem?_eq_some_iff.1 hg).1, fun u hu => by
      rw [cell_of_row W g (0 + j * 9 + u) cur _ _ hg, ← flatM_get rows j x u hx hu, ← ht, List.getElem?_take, if_pos (by omega)]
      simp⟩
end Go.Proofs.YtkleadjkebofpaaGreatDoor

/- Exports as plain data; creelref11.Same; a box that holds one. -/
namespace Go.Proofs.YtkleadjkebofpaaGreatDoor
open Go.RowKit
set_option linter.unusedVariables false
set_option maxRecDepth 100000

/-- An export. -/
structure Ex where
  nam : List UInt8
  kind : UInt8
  idx : UInt32
  deriving DecidableEq
/-- Its cells. -/
abbrev exC (x : Ex) : Array Value := #[.string (S x.nam), .int .u8 x.kind.toNat, .int .u32 x.idx.toNat]
/-- What lies in a block that holds an export. -/
theorem Whole.ex {w : World} {b : Nat} {t : TypeId} {x : Ex} (h : Whole w b t (exC x)) :
    w.cell? ⟨b, 0, none⟩ = some (.string (S x.nam)) ∧ w.cell? ⟨b, 1, none⟩ = some (.int .u8 x.kind.toNat) ∧ w.cell? ⟨b, 2, none⟩ = some (.int .u32 x.idx.toNat) := ⟨h.cell 0, h.cell 1, h.cell 2⟩
section
variable {B W W' : World} {b : Nat} {x : Ex}
end
end Go.Proofs.YtkleadjkebofpaaGreatDoor

/- Exports that lie somewhere; rows of exports of the call's own. -/
namespace Go.Proofs.YtkleadjkebofpaaGreatDoor
open Go.RowKit
set_option linter.unusedVariables false
set_option maxRecDepth 100000

def exL (x : Ex) : List Value := (exC x).toList
/-- A row of exports of the call's own. -/
def RowE (W : World) (base : Nat) (v : Value) (rows : List Ex) : Prop := W.ownsRow base 91 3 v rows.length (rows.flatMap exL)
theorem RowE.nil (W : World) (base : Nat) : RowE W base (.slice none 0 0) [] := World.ownsRow_nil W base _ 3
theorem RowE.slice {W : World} {base : Nat} {v : Value} {rows : List Ex} (h : RowE W base v rows) : ∃ A c, v = .slice A rows.length c := by
  rcases h.2 with ⟨rfl, h0⟩ | ⟨g, cap, cur, rfl, _⟩
  · exact ⟨none, 0, by rw [h0]⟩
  · exact ⟨_, cap, rfl⟩
theorem RowE.past {W W' : World} {base b : Nat} {v : Value} {rows : List Ex} (h : RowE W base v rows) (hg : W.grownBy W' (some b)) (hb : b < base) : RowE W' base v rows :=
  World.ownsRow.kept h hg (by
    cases hv : v.ownBlock with
    | none => exact .inl rfl
    | some k => exact .inr (by have := (World.ownsRow.lt h k hv).1; simp only [ne_eq, Option.some.injEq]; omega))
theorem RowE.later {W W' : World} {base : Nat} {v : Value} {rows : List Ex} (h : RowE W base v rows) (hb : Below W.heap.size W W') : RowE W' base v rows :=
  World.ownsRow.kept h (gb_of_below none hb) (by cases v.ownBlock with
    | none => exact .inl rfl
    | some k => exact .inr (by simp))
theorem RowE.alloc {W : World} {base : Nat} {v : Value} {rows : List Ex} (h : RowE W base v rows) (o : Obj) : RowE (W.alloc o) base v rows := World.ownsRow.alloc h o
theorem RowE.mono {W : World} {base base' : Nat} {v : Value} {rows : List Ex} (h : RowE W base v rows) (hb : base' ≤ base) : RowE W base' v rows := by
  obtain ⟨h1, h2⟩ := h
  refine ⟨h1, ?_⟩
  rcases h2 with h2 | ⟨g, cap, cur, e, hg, r⟩
  · exact .inl h2
  · exact .inr ⟨g, cap, cur, e, Nat.le_trans hb hg, r⟩
/-- Nothing old has turned, and nothing of the row's own is lost. -/
theorem RowE.below {w W W' : World} {base : Nat} {v : Value} {rows : List Ex} (h : RowE W base v rows) (hB : base ≤ W.heap.size) (hg : W.grownBy W' v.ownBlock) : Below base W W' :=
  Below.grown (Below.refl _ _) hg hB (fun k hk => (World.ownsRow.lt h k hk).1)

/-- The slice at A reads as these exports. -/
def Exs (w : World) (A : Option Addr) (l : List Ex) : Prop :=
  ∀ j x, l[j]? = some x → ∃ b off, A = some ⟨b, off, none⟩ ∧ b < w.heap.size ∧ ∀ u, u < 3 → w.cell? ⟨b, off + j * 3 + u, none⟩ = (exL x)[u]?
theorem Exs.below {w w' : World} {A : Option Addr} {l : List Ex} (h : Exs w A l) (hb : Below w.heap.size w w') : Exs w' A l := fun j x hx => by
  obtain ⟨b, off, e, h1, h2⟩ := h j x hx
  exact ⟨b, off, e, Nat.lt_of_lt_of_le h1 hb.size, fun u hu => (hb.cell (p := ⟨b, _, none⟩) h1).trans (h2 u hu)⟩
end Go.Proofs.YtkleadjkebofpaaGreatDoor

/- The reference's Right. (By gen/genRefRight.py.) -/
namespace Go.Proofs.YtkleadjkebofpaaGreatDoor
open Go.RowKit
set_option linter.unusedVariables false
set_option maxRecDepth 100000

end Go.Proofs.YtkleadjkebofpaaGreatDoor

/- consts.Right and the reference's Right. (By gen/genCRight.py.) -/
namespace Go.Proofs.YtkleadjkebofpaaGreatDoor
open Go.RowKit
set_option linter.unusedVariables false
set_option maxRecDepth 100000

/-- May an instruction be a constant expression? -/
def IsC (n : Nat) : Prop := n = 35 ∨ n = 65 ∨ n = 66
instance (n : Nat) : Decidable (IsC n) := by unfold IsC; infer_instance
end Go.Proofs.YtkleadjkebofpaaGreatDoor
