/- What a module needs, as plain data; a box that holds it; what may be told (as plain functions). -/
import Derived.Test.YtkleadjkebofpaaGreatDoorZs04
import Derived.Test.YtkleadjkebofpaaGreatDoorZs05
import Derived.Test.YtkleadjkebofpaaGreatDoorZs02
import Derived.Test.YtkleadjkebofpaaGreatDoorZs03
import Derived.Test.YtkleadjkebofpaaGreatDoorZs01
import Derived.Lib.AppendZeros
import Derived.Laws.OwnMore
import Derived.Deep.CutBlock
import Derived.Deep.DeepCutAuto
namespace Go.Proofs.YtkleadjkebofpaaGreatDoor
open Go.RowKit
set_option linter.unusedVariables false
set_option maxRecDepth 100000

structure Dl where
  has : Bool
  ms : UInt32
  ma : UInt32
  ts : UInt32
  ta : UInt32
  nd : List (List UInt8)
/-- Its cells; the names lie at A. -/
abbrev dlC (x : Dl) (A : Option Addr) (c : Nat) : Array Value := #[.bool x.has, .int .u32 x.ms.toNat, .int .u32 x.ma.toNat, .int .u32 x.ts.toNat, .int .u32 x.ta.toNat, .slice A x.nd.length c]
abbrev dlV (x : Dl) (A : Option Addr) (c : Nat) : Value := .agg (dlC x A c)
abbrev dl6 (W : World) (b : Nat) (x : Dl) (A : Option Addr) (c : Nat) : Prop :=
  W.cell? ⟨b, 0, none⟩ = some (.bool x.has) ∧ W.cell? ⟨b, 1, none⟩ = some (.int .u32 x.ms.toNat) ∧ W.cell? ⟨b, 2, none⟩ = some (.int .u32 x.ma.toNat) ∧ W.cell? ⟨b, 3, none⟩ = some (.int .u32 x.ts.toNat) ∧ W.cell? ⟨b, 4, none⟩ = some (.int .u32 x.ta.toNat) ∧ W.cell? ⟨b, 5, none⟩ = some (.slice A x.nd.length c)
theorem Whole.dl {w : World} {b : Nat} {t : TypeId} {x : Dl} {A : Option Addr} {c : Nat} (h : Whole w b t (dlC x A c)) : dl6 w b x A c := ⟨h.cell 0, h.cell 1, h.cell 2, h.cell 3, h.cell 4, h.cell 5⟩
/-- A block that holds it, in a world grown from B: what is held of it. -/
abbrev BxD (B : World) (b : Nat) (x : Dl) (A : Option Addr) (c : Nat) (W : World) : Prop := (Whole W b 34 (dlC x A c) ∧ Below B.heap.size B W) ∧ dl6 W b x A c
section
variable {B W W' : World} {b : Nat} {x : Dl} {A : Option Addr} {c : Nat}
theorem bxD_on (h : BxD B b x A c W) (hb : Below W.heap.size W W') : BxD B b x A c W' := ⟨⟨h.1.1.below hb, h.1.2.trans (hb.mono h.1.2.size)⟩, (h.1.1.below hb).dl⟩
theorem bxD_start (w : World) (x : Dl) (A : Option Addr) (c : Nat) : BxD w w.heap.size x A c (w.alloc (.cells (dlC x A c) 34)) := ⟨⟨Whole.made _ _ _, below_box _ _⟩, (Whole.made w 34 (dlC x A c)).dl⟩
theorem bxD_bel (h : BxD B b x A c W) : Below B.heap.size B W := h.1.2
end
/-- Nothing is told. -/
def AllZ (x : Dl) : Prop := x.ms.toNat = 0 ∧ x.ma.toNat = 0 ∧ x.ts.toNat = 0 ∧ x.ta.toNat = 0 ∧ x.nd.length = 0
open Classical in
noncomputable def noZ (x : Dl) : Int := if AllZ x then 0 else 15
/-- The first error of a name, or that it stands there already. -/
def nmGo (seen : List (List UInt8)) : List (List UInt8) → Int
  | [] => 0
  | s :: r => if checkZ s ≠ 0 then checkZ s else if s ∈ seen then 27 else nmGo (seen ++ [s]) r
open Classical in
/-- May it be? -/
noncomputable def drZ (x : Dl) : Int := if x.has = true then (if 20 < x.ma.toNat ∨ 20 < x.ta.toNat then 25 else if 200 < x.nd.length then 29 else nmGo [] x.nd) else noZ x
theorem drop_at {α : Type} {l : List α} {k : Nat} {s : α} (h : l[k]? = some s) : l.drop k = s :: l.drop (k + 1) := by
  obtain ⟨h1, h2⟩ := List.getElem?_eq_some_iff.1 h
  rw [List.drop_eq_getElem_cons h1, h2]
theorem take_at {α : Type} {l : List α} {k : Nat} {s : α} (h : l[k]? = some s) : l.take (k + 1) = l.take k ++ [s] := by rw [List.take_add_one, h]; rfl
theorem nmGo_drop {l : List (List UInt8)} {k : Nat} {s : List UInt8} (h : l[k]? = some s) : nmGo (l.take k) (l.drop k) = if checkZ s ≠ 0 then checkZ s else if s ∈ l.take k then 27 else nmGo (l.take (k + 1)) (l.drop (k + 1)) := by
  rw [drop_at h, take_at h]
  rfl
/-- None of these is it. -/
theorem mem_take_iff {l : List (List UInt8)} {k : Nat} {s : List UInt8} (hk : k ≤ l.length) : s ∈ l.take k ↔ ∃ j, j < k ∧ l[j]? = some s := by
  constructor
  · intro h
    obtain ⟨j, hj⟩ := List.getElem?_of_mem h
    have hlt := (List.getElem?_eq_some_iff.1 hj).1
    rw [List.length_take] at hlt
    rw [List.getElem?_take, if_pos (by omega)] at hj
    exact ⟨j, by omega, hj⟩
  · rintro ⟨j, hj, h⟩
    exact List.mem_of_getElem? (i := j) (by rw [List.getElem?_take, if_pos hj]; exact h)
end Go.Proofs.YtkleadjkebofpaaGreatDoor

/- A module as plain data; where its lists lie; a box that holds it. (By gen/genMd.py.) -/
namespace Go.Proofs.YtkleadjkebofpaaGreatDoor
open Go.RowKit
set_option linter.unusedVariables false
set_option maxRecDepth 100000

/-- A function's type, limits. -/
structure Ft where
  p : List UInt8
  r : List UInt8
  deriving DecidableEq
structure Lm where
  lo : UInt32
  hi : UInt32
  bd : Bool
  deriving DecidableEq
/-- The slice at A reads as these types. -/
def Fts (w : World) (A : Option Addr) (l : List Ft) : Prop :=
  ∀ j x, l[j]? = some x → ∃ b off, A = some ⟨b, off, none⟩ ∧ b < w.heap.size ∧ w.cell? ⟨b, off + j * 2, none⟩ = some (.string (S x.p)) ∧ w.cell? ⟨b, off + j * 2 + 1, none⟩ = some (.string (S x.r))
theorem Fts.below {w w' : World} {A : Option Addr} {l : List Ft} (h : Fts w A l) (hb : Below w.heap.size w w') : Fts w' A l := fun j x hx => by
  obtain ⟨b, off, e, h1, h2, h3⟩ := h j x hx
  exact ⟨b, off, e, Nat.lt_of_lt_of_le h1 hb.size, (hb.cell (p := ⟨b, _, none⟩) h1).trans h2, (hb.cell (p := ⟨b, _, none⟩) h1).trans h3⟩
def Lms (w : World) (A : Option Addr) (l : List Lm) : Prop :=
  ∀ j x, l[j]? = some x → ∃ b off, A = some ⟨b, off, none⟩ ∧ b < w.heap.size ∧ w.cell? ⟨b, off + j * 3, none⟩ = some (.int .u32 x.lo.toNat) ∧ w.cell? ⟨b, off + j * 3 + 1, none⟩ = some (.int .u32 x.hi.toNat) ∧ w.cell? ⟨b, off + j * 3 + 2, none⟩ = some (.bool x.bd)
theorem Lms.below {w w' : World} {A : Option Addr} {l : List Lm} (h : Lms w A l) (hb : Below w.heap.size w w') : Lms w' A l := fun j x hx => by
  obtain ⟨b, off, e, h1, h2, h3, h4⟩ := h j x hx
  exact ⟨b, off, e, Nat.lt_of_lt_of_le h1 hb.size, (hb.cell (p := ⟨b, _, none⟩) h1).trans h2, (hb.cell (p := ⟨b, _, none⟩) h1).trans h3, (hb.cell (p := ⟨b, _, none⟩) h1).trans h4⟩
structure Md where
  ty : List Ft
  im : List Im
  fn : List Int
  tb : List Lm
  me : List Lm
  gl : List SlotG
  ex : List Ex
  st : Int
  el : List SlotEl
  co : List SlotBd
  da : List SlotDa
  dy : Dl
/-- Where its lists lie, and their room. -/
structure MdA where
  ty : Option Addr × Nat
  im : Option Addr × Nat
  fn : Option Addr × Nat
  tb : Option Addr × Nat
  me : Option Addr × Nat
  gl : Option Addr × Nat
  ex : Option Addr × Nat
  el : Option Addr × Nat
  co : Option Addr × Nat
  da : Option Addr × Nat
  nd : Option Addr × Nat
abbrev mdC (m : Md) (a : MdA) : Array Value := #[.slice a.ty.1 m.ty.length a.ty.2, .slice a.im.1 m.im.length a.im.2, .slice a.fn.1 m.fn.length a.fn.2, .slice a.tb.1 m.tb.length a.tb.2, .slice a.me.1 m.me.length a.me.2, .slice a.gl.1 m.gl.length a.gl.2, .slice a.ex.1 m.ex.length a.ex.2, .int .i64 m.st, .slice a.el.1 m.el.length a.el.2, .slice a.co.1 m.co.length a.co.2, .slice a.da.1 m.da.length a.da.2, .bool m.dy.has, .int .u32 m.dy.ms.toNat, .int .u32 m.dy.ma.toNat, .int .u32 m.dy.ts.toNat, .int .u32 m.dy.ta.toNat, .slice a.nd.1 m.dy.nd.length a.nd.2]
abbrev mdV (m : Md) (a : MdA) : Value := .agg (mdC m a)
abbrev md17 (W : World) (b : Nat) (m : Md) (a : MdA) : Prop :=
  W.cell? ⟨b, 0, none⟩ = some (.slice a.ty.1 m.ty.length a.ty.2) ∧ W.cell? ⟨b, 1, none⟩ = some (.slice a.im.1 m.im.length a.im.2) ∧ W.cell? ⟨b, 2, none⟩ = some (.slice a.fn.1 m.fn.length a.fn.2) ∧ W.cell? ⟨b, 3, none⟩ = some (.slice a.tb.1 m.tb.length a.tb.2) ∧ W.cell? ⟨b, 4, none⟩ = some (.slice a.me.1 m.me.length a.me.2) ∧ W.cell? ⟨b, 5, none⟩ = some (.slice a.gl.1 m.gl.length a.gl.2) ∧ W.cell? ⟨b, 6, none⟩ = some (.slice a.ex.1 m.ex.length a.ex.2) ∧ W.cell? ⟨b, 7, none⟩ = some (.int .i64 m.st) ∧ W.cell? ⟨b, 8, none⟩ = some (.slice a.el.1 m.el.length a.el.2) ∧ W.cell? ⟨b, 9, none⟩ = some (.slice a.co.1 m.co.length a.co.2) ∧ W.cell? ⟨b, 10, none⟩ = some (.slice a.da.1 m.da.length a.da.2) ∧ W.cell? ⟨b, 11, none⟩ = some (.bool m.dy.has) ∧ W.cell? ⟨b, 12, none⟩ = some (.int .u32 m.dy.ms.toNat) ∧ W.cell? ⟨b, 13, none⟩ = some (.int .u32 m.dy.ma.toNat) ∧ W.cell? ⟨b, 14, none⟩ = some (.int .u32 m.dy.ts.toNat) ∧ W.cell? ⟨b, 15, none⟩ = some (.int .u32 m.dy.ta.toNat) ∧ W.cell? ⟨b, 16, none⟩ = some (.slice a.nd.1 m.dy.nd.length a.nd.2)
theorem Whole.md {w : World} {b : Nat} {t : TypeId} {m : Md} {a : MdA} (h : Whole w b t (mdC m a)) : md17 w b m a := ⟨h.cell 0, h.cell 1, h.cell 2, h.cell 3, h.cell 4, h.cell 5, h.cell 6, h.cell 7, h.cell 8, h.cell 9, h.cell 10, h.cell 11, h.cell 12, h.cell 13, h.cell 14, h.cell 15, h.cell 16⟩
/-- Its lists lie there. -/
structure MdIn (w : World) (m : Md) (a : MdA) : Prop where
  ty : Fts w a.ty.1 m.ty
  im : Ims w a.im.1 m.im
  fn : LiesL w a.fn.1 m.fn
  tb : Lms w a.tb.1 m.tb
  me : Lms w a.me.1 m.me
  gl : Gs w a.gl.1 m.gl
  ex : Exs w a.ex.1 m.ex
  el : Es w a.el.1 m.el
  co : Bds w a.co.1 m.co
  da : Das w a.da.1 m.da
  nd : SlT w a.nd.1 m.dy.nd
  fb : ∀ c ∈ m.fn, 0 ≤ c ∧ c ≤ 4294967295
theorem MdIn.below {w w' : World} {m : Md} {a : MdA} (h : MdIn w m a) (hb : Below w.heap.size w w') : MdIn w' m a :=
  ⟨h.ty.below hb, h.im.below hb, h.fn.below hb, h.tb.below hb, h.me.below hb, h.gl.below hb, h.ex.below hb, h.el.below hb, h.co.below hb, h.da.below hb, h.nd.below hb, h.fb⟩
abbrev BxM (B : World) (b : Nat) (m : Md) (a : MdA) (W : World) : Prop := (Whole W b 36 (mdC m a) ∧ Below B.heap.size B W) ∧ md17 W b m a
section
variable {B W W' : World} {b : Nat} {m : Md} {a : MdA}
theorem bxM_on (h : BxM B b m a W) (hb : Below W.heap.size W W') : BxM B b m a W' := ⟨⟨h.1.1.below hb, h.1.2.trans (hb.mono h.1.2.size)⟩, (h.1.1.below hb).md⟩
theorem bxM_start (w : World) (m : Md) (a : MdA) : BxM w w.heap.size m a (w.alloc (.cells (mdC m a) 36)) := ⟨⟨Whole.made _ _ _, below_box _ _⟩, (Whole.made w 36 (mdC m a)).md⟩
theorem bxM_bel (h : BxM B b m a W) : Below B.heap.size B W := h.1.2
end
end Go.Proofs.YtkleadjkebofpaaGreatDoor

/- dylink.nothing, names, Right; creelref16.Right. (By gen/genR.py.) -/
namespace Go.Proofs.YtkleadjkebofpaaGreatDoor
open Go.RowKit
set_option linter.unusedVariables false
set_option maxRecDepth 100000

set_option maxHeartbeats 4000000 in
theorem nothing_dl (x : Dl) (A : Option Addr) (c : Nat) (w : World) : Calls Tryz.prog 47 #[dlV x A c] w fun e w' => e = .returned (.int .i64 (noZ x)) ∧ Below w.heap.size w w' := by
  have H0 := Lib.hid (bxD_start w x A c)
  obtain ⟨c0, c1, c2, c3, c4, c5⟩ := H0.out.2
  by_cases z0 : x.ms.toNat = 0
  rotate_left
  · have hz : noZ x = 15 := if_neg (fun h => z0 h.1)
    rw [hz]
    have d0 : ((x.ms.toNat : Int) != 0) = true := nb_of (decide_eq_true (by omega))
    clear hz z0
    go_enter Tryz.func47, Tryz.ntmps47
    go_wp2
    go_ret
    exact ⟨rfl, bxD_bel H0.out⟩
  by_cases z1 : x.ma.toNat = 0
  rotate_left
  · have hz : noZ x = 15 := if_neg (fun h => z1 h.2.1)
    rw [hz]
    have d0 : ((x.ms.toNat : Int) != 0) = false := nb_of (decide_eq_false (by omega))
    have d1 : ((x.ma.toNat : Int) != 0) = true := nb_of (decide_eq_true (by omega))
    clear hz z0 z1
    go_enter Tryz.func47, Tryz.ntmps47
    go_wp2
    go_ret
    exact ⟨rfl, bxD_bel H0.out⟩
  by_cases z2 : x.ts.toNat = 0
  rotate_left
  · have hz : noZ x = 15 := if_neg (fun h => z2 h.2.2.1)
    rw [hz]
    have d0 : ((x.ms.toNat : Int) != 0) = false := nb_of (decide_eq_false (by omega))
    have d1 : ((x.ma.toNat : Int) != 0) = false := nb_of (decide_eq_false (by omega))
    have d2 : ((x.ts.toNat : Int) != 0) = true := nb_of (decide_eq_true (by omega))
    clear hz z0 z1 z2
    go_enter Tryz.func47, Tryz.ntmps47
    go_wp2
    go_ret
    exact ⟨rfl, bxD_bel H0.out⟩
  by_cases z3 : x.ta.toNat = 0
  rotate_left
  · have hz : noZ x = 15 := if_neg (fun h => z3 h.2.2.2.1)
    rw [hz]
    have d0 : ((x.ms.toNat : Int) != 0) = false := nb_of (decide_eq_false (by omega))
    have d1 : ((x.ma.toNat : Int) != 0) = false := nb_of (decide_eq_false (by omega))
    have d2 : ((x.ts.toNat : Int) != 0) = false := nb_of (decide_eq_false (by omega))
    have d3 : ((x.ta.toNat : Int) != 0) = true := nb_of (decide_eq_true (by omega))
    clear hz z0 z1 z2 z3
    go_enter Tryz.func47, Tryz.ntmps47
    go_wp2
    go_ret
    exact ⟨rfl, bxD_bel H0.out⟩
  by_cases z4 : x.nd.length = 0
  rotate_left
  · have hz : noZ x = 15 := if_neg (fun h => z4 h.2.2.2.2)
    rw [hz]
    have d0 : ((x.ms.toNat : Int) != 0) = false := nb_of (decide_eq_false (by omega))
    have d1 : ((x.ma.toNat : Int) != 0) = false := nb_of (decide_eq_false (by omega))
    have d2 : ((x.ts.toNat : Int) != 0) = false := nb_of (decide_eq_false (by omega))
    have d3 : ((x.ta.toNat : Int) != 0) = false := nb_of (decide_eq_false (by omega))
    have d4 : ((x.nd.length : Int) != 0) = true := nb_of <| decide_eq_true (by omega)
    clear hz z0 z1 z2 z3 z4
    go_enter Tryz.func47, Tryz.ntmps47
    go_wp2
    go_ret
    exact ⟨rfl, bxD_bel H0.out⟩
  · have hz : noZ x = 0 := if_pos ⟨z0, z1, z2, z3, z4⟩
    rw [hz]
    have d0 : ((x.ms.toNat : Int) != 0) = false := nb_of (decide_eq_false (by omega))
    have d1 : ((x.ma.toNat : Int) != 0) = false := nb_of (decide_eq_false (by omega))
    have d2 : ((x.ts.toNat : Int) != 0) = false := nb_of (decide_eq_false (by omega))
    have d3 : ((x.ta.toNat : Int) != 0) = false := nb_of (decide_eq_false (by omega))
    have d4 : ((x.nd.length : Int) != 0) = false := nb_of <| decide_eq_false (by omega)
    clear hz z0 z1 z2 z3 z4
    go_enter Tryz.func47, Tryz.ntmps47
    go_wp2
    go_ret
    exact ⟨rfl, bxD_bel H0.out⟩
/-- A slice of strings cut at its head. -/
theorem cut_strs (W : World) (A : Option Addr) (k n c : Nat) (hk : k ≤ n) (hn : n ≤ c) (b off : Nat) (hA : A = some ⟨b, off, none⟩) (h0 : 0 < c) :
    (Instr.slice 32 (.slice A n c) none (some (.int .i64 (k : Int))) none).run Tryz.prog W = .ok (.slice A k c) W := by
  subst hA
  have ht : Tryz.prog.underlying 32 = some (.slice (Tryz.prog.elem 32)) := by simp [Program.elem, Tryz.underlying32]
  have he : Tryz.prog.elem 32 = 9 := by simp [Program.elem, Tryz.underlying32]
  rw [run_slice_h W 32 _ n c ht .i64 (k : Int) (by omega) (by omega), he, Tryz.sizeOf9]
  have hc : ¬ c = 0 := by omega
  simp [Result.andThen, sliced, hc, Addr.add]
set_option maxHeartbeats 2000000 in
/-- slices.Index of a string. -/
theorem index_strs {w : World} {A : Option Addr} {c k : Nat} {l : List (List UInt8)} (s : List UInt8) (hl : SlT w A l) (hk : k ≤ l.length) (hn : l.length ≤ 10000) :
    Calls Tryz.prog 102 #[.slice A k c, .string (S s)] w fun e w' => ∃ z : Int, e = .returned (.int .i64 z) ∧ Below w.heap.size w w' ∧ (decide (0 ≤ z) = decide (s ∈ l.take k)) := by
  have HL := Lib.hid hl
  have HK := Lib.hid hk
  obtain ⟨P, hP⟩ : ∃ P : Bool, P = decide (s ∈ l.take k) := ⟨_, rfl⟩
  rw [← hP]
  have HPP := Lib.hid hP
  clear hl hP
  go_enter Tryz.func102, Tryz.ntmps102
  go_wp2
  go_loopw [8] (fun i wr => ∃ j : Nat, j ≤ k ∧ i = .int .i64 j ∧ s ∉ l.take j ∧ Below w.heap.size w wr) (fun i _ => k - (intOf i).toNat)
  case atStart => exact ⟨0, Nat.zero_le _, rfl, by simp, Below.refl _ _⟩
  case round =>
    obtain ⟨j, hj, rfl, hm, hb⟩ := hrel
    by_cases hlt : j < k
    · obtain ⟨t, ht⟩ : ∃ t, l[j]? = some t := ⟨_, List.getElem?_eq_getElem (by have := HK.out; omega)⟩
      obtain ⟨b, off, rfl, hbl, m0⟩ := HL.out.below hb j t ht
      have HB := Lib.hid hb
      by_cases e : s = t
      · have d1 : ((S s).toList == (S t).toList) = true := by rw [S_beqM, decide_eq_true e]
        have HY := Lib.hid (show P = true by rw [HPP.out]; exact decide_eq_true ((mem_take_iff HK.out).2 ⟨j, hlt, by rw [e]; exact ht⟩))
        clear e hm hb ht
        go_wp2
        go_ret
        exact ⟨(j : Int), rfl, HB.out, by rw [HY.out]; exact decide_eq_true (by omega)⟩
      · have d1 : ((S s).toList == (S t).toList) = false := by rw [S_beqM, decide_eq_false e]
        have HM := Lib.hid (show s ∉ l.take (j + 1) by rw [take_at ht]; intro h; rcases List.mem_append.1 h with h | h; exact hm h; rw [List.mem_singleton] at h; exact e h)
        clear e hm hb ht
        go_wp2
        go_roundw
        case rel => exact ⟨j + 1, by omega, by go_num, HM.out, HB.out⟩
        case measure => simp [intOf]; omega
    · obtain rfl : j = k := by omega
      have HB := Lib.hid hb
      have HY := Lib.hid (show P = false by rw [HPP.out]; exact decide_eq_false hm)
      clear hb hm
      go_wp2
      go_ret
      exact ⟨-1, rfl, HB.out, by rw [HY.out]; rfl⟩
theorem contains_strs {w : World} {A : Option Addr} {c k : Nat} {l : List (List UInt8)} (s : List UInt8) (hl : SlT w A l) (hk : k ≤ l.length) (hn : l.length ≤ 10000) :
    Calls Tryz.prog 75 #[.slice A k c, .string (S s)] w fun e w' => e = .returned (.bool (decide (s ∈ l.take k))) ∧ Below w.heap.size w w' := by
  have HI := Lib.hid (index_strs (c := c) s hl hk hn)
  generalize decide (s ∈ l.take k) = P at *
  clear hl hk hn
  go_enter Tryz.func75, Tryz.ntmps75
  go_wp2_with (go_at_call 102; go_must ((with_reducible refine HI.out.mono ?_); intro e w1 hq; obtain ⟨z, rfl, hb, hz⟩ := hq; have HB := Lib.hid hb; have HZ := Lib.hid hz; clear hb hz))
  go_ret
  exact ⟨by rw [← HZ.out]; rfl, HB.out⟩
set_option maxHeartbeats 4000000 in
theorem names_dl {w : World} {A : Option Addr} {c : Nat} {l : List (List UInt8)} (hl : SlT w A l) (hn : l.length ≤ 10000) (hnc : l.length ≤ c) (hs : ∀ s ∈ l, s.length ≤ 40000000) (hT : TabsU w) :
    Calls Tryz.prog 48 #[.slice A l.length c] w fun e w' => e = .returned (.int .i64 (nmGo [] l)) ∧ Below w.heap.size w w' := by
  have HL := Lib.hid hl
  have HT := Lib.hid hT
  have HSz := Lib.hid hs
  obtain ⟨R, hR⟩ : ∃ R, R = nmGo [] l := ⟨_, rfl⟩
  rw [← hR]
  have HR := Lib.hid hR
  obtain ⟨n, hnn⟩ : ∃ n, n = l.length := ⟨_, rfl⟩
  have HN := Lib.hid hnn
  rw [← hnn] at hn hnc ⊢
  clear hl hT hs hR hnn
  go_enter Tryz.func48, Tryz.ntmps48
  go_wp2
  go_loopw [8] (fun i wr => ∃ k : Nat, k ≤ n ∧ i = .int .i64 k ∧ nmGo (l.take k) (l.drop k) = R ∧ Below w.heap.size w wr) (fun i _ => n - (intOf i).toNat)
  case atStart => exact ⟨0, Nat.zero_le _, rfl, by rw [HR.out]; rfl, Below.refl _ _⟩
  case round =>
    obtain ⟨k, hk, rfl, hg, hb⟩ := hrel
    by_cases hlt : k < n
    · obtain ⟨s, hx⟩ : ∃ s, l[k]? = some s := ⟨_, List.getElem?_eq_getElem (by rw [← HN.out]; exact hlt)⟩
      obtain ⟨b, off, hA, hbl, m0⟩ := HL.out.below hb k s hx
      have HC := Lib.hid (checkU_any s wr (HSz.out s (List.mem_of_getElem? hx)) (HT.out.below hb))
      have hcut := fun W => cut_strs W A k n c (by omega) hnc b off hA (by omega)
      have HLW := Lib.hid (HL.out.below hb)
      have HCo := Lib.hid (fun W (h : Below wr.heap.size wr W) => contains_strs (c := c) (k := k) s (HLW.out.below h) (by rw [← HN.out]; omega) (by rw [← HN.out]; exact hn))
      rw [nmGo_drop hx] at hg
      have HB := Lib.hid hb
      subst hA
      by_cases hz : checkZ s = 0
      · rw [if_neg (by simpa using hz)] at hg
        rw [hz] at HC
        by_cases hm : s ∈ l.take k
        · rw [if_pos hm] at hg
          have HCo2 := Lib.hid (fun W (h : Below wr.heap.size wr W) => show Calls Tryz.prog 75 #[.slice (some ⟨b, off, none⟩) k c, .string (S s)] W fun e w' => e = .returned (.bool true) ∧ Below W.heap.size W w' from by have := HCo.out W h; rwa [decide_eq_true hm] at this)
          have HG := Lib.hid hg
          clear hz hm hg hx hb HCo HLW
          go_wp2_with (first
            | (go_at_call 74; go_must ((with_reducible refine HC.out.mono ?_); rintro e w2 ⟨rfl, hb⟩; have HB2 := Lib.hid hb; clear hb))
            | (go_at_call 75; go_must ((with_reducible refine (HCo2.out _ HB2.out).mono ?_); rintro e w3 ⟨rfl, hb⟩; have HB3 := Lib.hid hb; clear hb)))
          go_ret
          exact ⟨(by rw [← HG.out]; rfl), (HB.out.trans (HB2.out.mono HB.out.size)).trans (HB3.out.mono (Nat.le_trans HB.out.size HB2.out.size))⟩
        · rw [if_neg hm] at hg
          have HCo2 := Lib.hid (fun W (h : Below wr.heap.size wr W) => show Calls Tryz.prog 75 #[.slice (some ⟨b, off, none⟩) k c, .string (S s)] W fun e w' => e = .returned (.bool false) ∧ Below W.heap.size W w' from by have := HCo.out W h; rwa [decide_eq_false hm] at this)
          have HG := Lib.hid hg
          clear hz hm hg hx hb HCo HLW
          go_wp2_with (first
            | (go_at_call 74; go_must ((with_reducible refine HC.out.mono ?_); rintro e w2 ⟨rfl, hb⟩; have HB2 := Lib.hid hb; clear hb))
            | (go_at_call 75; go_must ((with_reducible refine (HCo2.out _ HB2.out).mono ?_); rintro e w3 ⟨rfl, hb⟩; have HB3 := Lib.hid hb; clear hb)))
          go_roundw
          case rel => exact ⟨k + 1, by omega, by go_num, HG.out, (HB.out.trans (HB2.out.mono HB.out.size)).trans (HB3.out.mono (Nat.le_trans HB.out.size HB2.out.size))⟩
          case measure => simp [intOf]; omega
      · rw [if_pos hz] at hg
        have dz : (checkZ s != 0) = true := zb_of (by simpa using hz)
        generalize checkZ s = z at *
        have HG := Lib.hid hg
        clear hz hg hx hb HCo HLW
        go_wp2_with (go_at_call 74; go_must ((with_reducible refine HC.out.mono ?_); rintro e w2 ⟨rfl, hb⟩; have HB2 := Lib.hid hb; clear hb))
        go_ret
        exact ⟨(by rw [← HG.out]; rfl), HB.out.trans (HB2.out.mono HB.out.size)⟩
    · have hkn : k = l.length := by rw [← HN.out]; omega
      rw [hkn, List.drop_length] at hg
      have HG := Lib.hid (show (0 : Int) = R from hg)
      have HB := Lib.hid hb
      clear hg hb hkn
      go_wp2
      go_ret
      exact ⟨(by rw [← HG.out]; rfl), HB.out⟩
set_option maxHeartbeats 4000000 in
theorem right_dl {w : World} {x : Dl} {A : Option Addr} {c : Nat} (hl : SlT w A x.nd) (hn : x.nd.length ≤ 10000) (hnc : x.nd.length ≤ c) (hs : ∀ s ∈ x.nd, s.length ≤ 40000000) (hT : TabsU w) :
    Calls Tryz.prog 19 #[dlV x A c] w fun e w' => e = .returned (.int .i64 (drZ x)) ∧ Below w.heap.size w w' := by
  have H0 := Lib.hid (bxD_start w x A c)
  obtain ⟨c0, c1, c2, c3, c4, c5⟩ := H0.out.2
  have hbx := below_box w (.cells (dlC x A c) 34)
  have HNM := Lib.hid (names_dl (hl.below hbx) hn hnc hs (hT.below hbx))
  have HNO := Lib.hid (nothing_dl x A c (w.alloc (.cells (dlC x A c) 34)))
  clear hl hT hs hnc hbx
  by_cases hh : x.has = true
  · rw [hh] at c0
    by_cases h1 : 20 < x.ma.toNat
    · have hr : drZ x = 25 := by unfold drZ; rw [if_pos hh, if_pos (.inl h1)]
      rw [hr]
      have d1 : decide ((20 : Int) < (x.ma.toNat : Int)) = true := decide_eq_true (by omega)
      clear hr h1 HNM HNO hn
      go_enter Tryz.func19, Tryz.ntmps19
      go_wp2
      go_ret
      exact ⟨rfl, bxD_bel H0.out⟩
    have d1 : decide ((20 : Int) < (x.ma.toNat : Int)) = false := decide_eq_false (by omega)
    by_cases h2 : 20 < x.ta.toNat
    · have hr : drZ x = 25 := by unfold drZ; rw [if_pos hh, if_pos (.inr h2)]
      rw [hr]
      have d2 : decide ((20 : Int) < (x.ta.toNat : Int)) = true := decide_eq_true (by omega)
      clear hr h1 h2 HNM HNO hn
      go_enter Tryz.func19, Tryz.ntmps19
      go_wp2
      go_ret
      exact ⟨rfl, bxD_bel H0.out⟩
    have d2 : decide ((20 : Int) < (x.ta.toNat : Int)) = false := decide_eq_false (by omega)
    by_cases h3 : 200 < x.nd.length
    · have hr : drZ x = 29 := by unfold drZ; rw [if_pos hh, if_neg (by omega), if_pos h3]
      rw [hr]
      have d3 : decide ((200 : Int) < (x.nd.length : Int)) = true := decide_eq_true (by omega)
      clear hr h1 h2 h3 HNM HNO hn
      go_enter Tryz.func19, Tryz.ntmps19
      go_wp2
      go_ret
      exact ⟨rfl, bxD_bel H0.out⟩
    have d3 : decide ((200 : Int) < (x.nd.length : Int)) = false := decide_eq_false (by omega)
    have hr : drZ x = nmGo [] x.nd := by unfold drZ; rw [if_pos hh, if_neg (by omega), if_neg h3]
    rw [hr]
    generalize nmGo [] x.nd = z at *
    clear hr h1 h2 h3 HNO hn
    go_enter Tryz.func19, Tryz.ntmps19
    go_wp2_with (go_at_call 48; go_must ((with_reducible refine HNM.out.mono ?_); rintro e w2 ⟨rfl, hb⟩; have H1 := Lib.hid (bxD_on H0.out hb); clear hb))
    go_ret
    exact ⟨rfl, bxD_bel H1.out⟩
  · have hr : drZ x = noZ x := by unfold drZ; rw [if_neg hh]
    rw [hr]
    have hf : x.has = false := by simpa using hh
    have HNO2 := Lib.hid (show Calls Tryz.prog 47 #[.agg #[.bool false, .int .u32 x.ms.toNat, .int .u32 x.ma.toNat, .int .u32 x.ts.toNat, .int .u32 x.ta.toNat, .slice A x.nd.length c]] (w.alloc (.cells (dlC x A c) 34)) _ from by rw [← hf]; exact HNO.out)
    rw [hf] at c0
    generalize noZ x = z at *
    clear hr hh hf HNM HNO hn
    go_enter Tryz.func19, Tryz.ntmps19
    go_wp2_with (go_at_call 47; go_must ((with_reducible refine HNO2.out.mono ?_); rintro e w2 ⟨rfl, hb⟩; have H1 := Lib.hid (bxD_on H0.out hb); clear hb))
    go_ret
    exact ⟨rfl, bxD_bel H1.out⟩
end Go.Proofs.YtkleadjkebofpaaGreatDoor

/- The reference's Walk and Shape. -/
namespace Go.Proofs.YtkleadjkebofpaaGreatDoor
open Go.RowKit
set_option linter.unusedVariables false
set_option maxRecDepth 100000

end Go.Proofs.YtkleadjkebofpaaGreatDoor

/- PutBody; the reference's SameAll. -/
namespace Go.Proofs.YtkleadjkebofpaaGreatDoor
open Go.RowKit
set_option linter.unusedVariables false
set_option maxRecDepth 100000

/-- Both lists, wherever they lie. -/
def Two (A B : Option Addr) (l : List I) (W : World) : Prop := Ins W A l ∧ Ins W B l
theorem Two.on {A B : Option Addr} {l : List I} {W W' : World} (h : Two A B l W) (hb : Below W.heap.size W W') : Two A B l W' := ⟨h.1.below hb, h.2.below hb⟩
end Go.Proofs.YtkleadjkebofpaaGreatDoor

/- The reference's Shape, Right, Types, Same of bodies. -/
namespace Go.Proofs.YtkleadjkebofpaaGreatDoor
open Go.RowKit
set_option linter.unusedVariables false
set_option maxRecDepth 100000

end Go.Proofs.YtkleadjkebofpaaGreatDoor

/- The reference's Types, Count, Put of bodies. -/
namespace Go.Proofs.YtkleadjkebofpaaGreatDoor
open Go.RowKit
set_option linter.unusedVariables false
set_option maxRecDepth 100000

section
variable {w : World} {ops : Array Oper} {o : Oper} {a : Act} {K : Act → World → Prop} {Q : Exit → Act → World → Prop} {E : Prop}
theorem step_build1 (hgd : o.guard = none) (x : Operand) (ho : o.op = .buildSlice 45 1 #[(0, x)]) (c : UInt8) (hx : a.eval x = .int .u8 c.toNat)
    (h : ∀ g wa, w.heap.size ≤ g → Below w.heap.size w wa → Pc (some ⟨g, 0, none⟩) 1 [c] wa → K (a.put o.dst (.slice (some ⟨g, 0, none⟩) 1 1)) wa) :
    if Region.wanted o (yielded ops a.tmps) = true then Oper.wp Tryz.prog o a w K Q else E := by
  have hl := lies_made w [c] (0, 0)
  refine step_value (v := .slice (some ⟨w.heap.size, 0, none⟩) 1 1) (w' := w.alloc (.cells (cells (nums [c])).toArray 5)) hgd ?_ (h _ _ (Nat.le_refl _) (below_box w _) ⟨by rw [size_box]; exact hl, fun e => by cases e⟩)
  cases o
  subst ho
  clear h
  generalize a.eval = ev at hx ⊢
  simp [go_sem, hx, cells, nums]
end
end Go.Proofs.YtkleadjkebofpaaGreatDoor

/- sect.Put. -/
namespace Go.Proofs.YtkleadjkebofpaaGreatDoor
open Go.RowKit
set_option linter.unusedVariables false
set_option maxRecDepth 100000

/-- A section's contents as they are written, and all its bytes. -/
noncomputable def innerL (x : Sct) : List UInt8 := if x.id.toNat = 0 then lebL x.name.length ++ x.name ++ x.body else x.body
noncomputable def secputL (x : Sct) : List UInt8 := [x.id] ++ lebL (innerL x).length ++ innerL x
def secV (x : Sct) (A : Option Addr) (c : Nat) : Value := .agg #[.int .u8 x.id.toNat, .string (S x.name), .slice A x.body.length c, .int .i64 x.off]
def secK (x : Sct) (A : Option Addr) (c : Nat) : Array Value := #[.int .u8 x.id.toNat, .string (S x.name), .slice A x.body.length c, .int .i64 x.off]
theorem innerL_len {x : Sct} {n : Nat} (h1 : x.name.length ≤ n) (h2 : x.body.length ≤ n) (hn : n ≤ 15000000) : (innerL x).length ≤ 2 * n + 10 := by
  have h := lebL_len (x.name.length : Int) (by omega)
  unfold innerL
  split
  · simp only [List.length_append]; omega
  · omega
theorem secputL_len {x : Sct} {n : Nat} (h1 : x.name.length ≤ n) (h2 : x.body.length ≤ n) (hn : n ≤ 15000000) : 2 ≤ (secputL x).length ∧ (secputL x).length ≤ 2 * n + 21 := by
  have h := innerL_len h1 h2 hn
  have h3 := lebL_len ((innerL x).length : Int) (by omega)
  unfold secputL
  simp only [List.length_append, List.length_singleton]
  omega
section
variable {w : World} {ops : Array Oper} {o : Oper} {a : Act} {K : Act → World → Prop} {Q : Exit → Act → World → Prop} {E : Prop}
theorem step_build2 (hgd : o.guard = none) (x0 x1 : Operand) (ho : o.op = .buildSlice 165 2 #[(0, x0), (1, x1)]) {A0 A1 : Option Addr} {n0 n1 c0 c1 : Nat} (h0 : a.eval x0 = .slice A0 n0 c0) (h1 : a.eval x1 = .slice A1 n1 c1)
    (h : ∀ g wa, w.heap.size ≤ g → Below w.heap.size w wa → Whole wa g 45 #[.slice A0 n0 c0, .slice A1 n1 c1] → K (a.put o.dst (.slice (some ⟨g, 0, none⟩) 2 2)) wa) :
    if Region.wanted o (yielded ops a.tmps) = true then Oper.wp Tryz.prog o a w K Q else E := by
  refine step_value (v := .slice (some ⟨w.heap.size, 0, none⟩) 2 2) (w' := w.alloc (.cells #[.slice A0 n0 c0, .slice A1 n1 c1] 45)) hgd ?_ (h _ _ (Nat.le_refl _) (below_box w _) (Whole.made _ _ _))
  cases o
  subst ho
  clear h
  generalize a.eval = ev at h0 h1 ⊢
  simp [go_sem, h0, h1]
/-- append of whatever lies, nothing at all too. -/
theorem step_anyS (hgd : o.guard = none) (s x : Operand)
    (ho : o.op = .call { callee := .builtin .append, args := #[s, x], argTypes := #[45, 45] })
    (B : Nat) (v : Value) (xs : List UInt8) (hs : a.eval s = v) (hr : Row w B v xs)
    (A : Option Addr) (m c : Nat) (news : List UInt8) (hx : a.eval x = .slice A m c) (hl : news.length = m) (hn : Pc A c news w)
    (hb : xs.length + news.length ≤ 40000000) (hB : B ≤ w.heap.size)
    (h : ∀ v' w', Row w' B v' (xs ++ news) → Below B w w' → K (a.put o.dst v') w') :
    if Region.wanted o (yielded ops a.tmps) = true then Oper.wp Tryz.prog o a w K Q else E := by
  by_cases hm : 0 < m
  · exact step_lies hgd s x ho B v xs hs hr A m c _ news hx hl hn.lies hm hb hB h
  · obtain rfl : m = 0 := by omega
    have he : news = [] := List.eq_nil_of_length_eq_zero hl
    subst he
    have hw : Region.wanted o (yielded ops a.tmps) = true := by simp [Region.wanted, hgd]
    rw [if_pos hw]
    obtain ⟨i0, hi0, hz0, hz1, hz2⟩ := info_parts infoB
    rcases A with _ | ad
    · obtain rfl := hn.nil rfl
      exact Lib.wp_append_run w s x 45 45 ho v _ hs hx v w (run_append_owned_none (P := Tryz.prog) (w := w) B 45 o.type 5 i0 1 Tryz.underlying45 hi0 v xs.length (cells (nums xs)) hr) (h v w (by simpa using hr) (Below.refl _ _))
    · refine wp_append_own _ s x _ ho B 5 i0 _ 1 1 Tryz.underlying45 hi0 hz0 hz1 hz2 rfl (by omega) v xs.length (cells (nums xs)) hs hr ad 0 c [] hx rfl (by intro j u hu; cases hu) (by intro u hu; cases hu) (by unfold maxLen; omega) (by omega) hB (fun v' w' h2 h3 _ => h v' w' ?_ (Row.below hr hB h3))
      show w'.ownsRow B 5 1 v' (xs ++ []).length (cells (nums (xs ++ [])))
      rw [List.append_nil]
      simpa using h2
end
theorem hold2 {W W' : World} {X : Nat} {a b : Value} {W0 : World} (h : W.cell? ⟨X, 1, none⟩ = some a ∧ W.cell? ⟨X, 2, none⟩ = some b ∧ Below W0.heap.size W0 W) (hb : Below W.heap.size W W') : W'.cell? ⟨X, 1, none⟩ = some a ∧ W'.cell? ⟨X, 2, none⟩ = some b ∧ Below W0.heap.size W0 W' :=
  ⟨(hb.cell (p := ⟨X, 1, none⟩) (block_lt_of_cell h.1)).trans h.1, (hb.cell (p := ⟨X, 2, none⟩) (block_lt_of_cell h.2.1)).trans h.2.1, h.2.2.trans (hb.mono h.2.2.size)⟩
theorem hold1 {W W' : World} {X : Nat} {a : Value} {W0 : World} (h : W.cell? ⟨X, 0, none⟩ = some a ∧ Below W0.heap.size W0 W) (hb : Below W.heap.size W W') : W'.cell? ⟨X, 0, none⟩ = some a ∧ Below W0.heap.size W0 W' :=
  ⟨(hb.cell (p := ⟨X, 0, none⟩) (block_lt_of_cell h.1)).trans h.1, h.2.trans (hb.mono h.2.size)⟩
/-- wire.Size, Name, Sized. -/
theorem wsize_s (n : Nat) (w : World) (hn : n ≤ 40000000) : Calls Tryz.prog 81 #[.int .i64 n] w (BytesL (lebL n) w) := by
  have HU := Lib.hid (fun w => uintB (n : Int) w (by omega) (by omega))
  have wn : IntKind.u64.wrap (n : Int) = n := by simp [IntKind.wrap, IntKind.bits, IntKind.signed]; omega
  generalize lebL (n : Int) = y at *
  go_enter Tryz.func81, Tryz.ntmps81
  go_wp2_with (go_at_call 86; go_must ((with_reducible refine (HU.out _).mono ?_); intro e w1 h; obtain ⟨v, rfl, hr, hb⟩ := h; have HR := Lib.hid hr; have HB := Lib.hid hb; clear hr hb))
  go_ret
  exact ⟨_, rfl, HR.out, HB.out⟩
theorem wsizedN_s (s : List UInt8) (w : World) (hs : s.length ≤ 15000000) : Calls Tryz.prog 100 #[.string (S s)] w (BytesL (lebL s.length ++ s) w) := by
  have HZ := Lib.hid (fun w => wsize_s s.length w (by omega))
  have hlen := lebL_len (s.length : Int) (by omega)
  have hsz := S_size s
  generalize lebL (s.length : Int) = y at *
  go_enter Tryz.func100, Tryz.ntmps100
  go_wp2_with (first
    | (go_at_call 81; go_must ((with_reducible refine (HZ.out _).mono ?_); intro e w1 h; obtain ⟨v, rfl, hr, hb⟩ := h; have HR := Lib.hid hr; have HB := Lib.hid hb; have hz1 := hb.size; clear hr hb))
    | (at_builtin; (refine row_str rfl _ _ rfl w.heap.size _ y rfl HR.out s rfl (by omega) hz1 ?_; intro v2 w2 hr2 hb2; have HR2 := Lib.hid hr2; have HB2 := Lib.hid hb2; clear hr2 hb2)))
  go_ret
  exact ⟨_, rfl, HR2.out, HB.out.trans HB2.out⟩
theorem wname_s (s : List UInt8) (w : World) (hs : s.length ≤ 15000000) : Calls Tryz.prog 76 #[.string (S s)] w (BytesL (lebL s.length ++ s) w) := by
  have HZ := Lib.hid (wsizedN_s s w hs)
  clear hs
  go_enter Tryz.func76, Tryz.ntmps76
  go_wp2_with (go_at_call 100; go_must ((with_reducible refine HZ.out.mono ?_); intro e w1 h; obtain ⟨v, rfl, hr, hb⟩ := h; have HR := Lib.hid hr; have HB := Lib.hid hb; clear hr hb))
  go_ret
  exact ⟨_, rfl, HR.out, HB.out⟩
theorem wsized_s {w : World} {A : Option Addr} {c : Nat} {l : List UInt8} (hp : Pc A c l w) (hn : l.length ≤ 35000000) :
    Calls Tryz.prog 78 #[.slice A l.length c] w (BytesL (lebL l.length ++ l) w) := by
  have HP := Lib.hid hp
  have HZ := Lib.hid (fun w => wsize_s l.length w (by omega))
  have hlen := lebL_len (l.length : Int) (by omega)
  clear hp
  generalize lebL (l.length : Int) = y at *
  go_enter Tryz.func78, Tryz.ntmps78
  go_wp2_with (first
    | (go_at_call 81; go_must ((with_reducible refine (HZ.out _).mono ?_); intro e w1 h; obtain ⟨v, rfl, hr, hb⟩ := h; have HR := Lib.hid hr; have HB := Lib.hid hb; have hz1 := hb.size; have HP1 := Lib.hid (HP.out.below hb); clear hr hb))
    | (at_builtin; (refine row_any rfl _ _ rfl w.heap.size _ y rfl HR.out A l.length c _ l rfl rfl HP1.out.lies HP1.out.nil (by omega) hz1 ?_; intro v2 w2 hr2 hb2; have HR2 := Lib.hid hr2; have HB2 := Lib.hid hb2; clear hr2 hb2)))
  go_ret
  exact ⟨_, rfl, HR2.out, HB.out.trans HB2.out⟩
set_option maxHeartbeats 1600000 in
/-- Concat of two pieces, of which one at least is not empty. -/
theorem concat2 {w : World} {g : Nat} {A1 A2 : Option Addr} {c1 c2 : Nat} {l1 l2 : List UInt8} (hg : Whole w g 45 #[.slice A1 l1.length c1, .slice A2 l2.length c2])
    (h1 : Pc A1 c1 l1 w) (h2 : Pc A2 c2 l2 w) (n1 : 0 < l1.length + l2.length) (n2 : l1.length + l2.length ≤ 40000000) :
    Calls Tryz.prog 77 #[.slice (some ⟨g, 0, none⟩) 2 2] w (BytesL (l1 ++ l2) w) := by
  have g0 : w.cell? ⟨g, 0, none⟩ = some (.slice A1 l1.length c1) := hg.cell 0
  have g1 : w.cell? ⟨g, 1, none⟩ = some (.slice A2 l2.length c2) := hg.cell 1
  obtain ⟨m1, hm1⟩ : ∃ m, m = l1.length := ⟨_, rfl⟩
  obtain ⟨m2, hm2⟩ : ∃ m, m = l2.length := ⟨_, rfl⟩
  rw [← hm1, ← hm2] at n1 n2
  rw [← hm1] at g0
  rw [← hm2] at g1
  have HG := Lib.hid hg
  have H1 := Lib.hid h1
  have H2 := Lib.hid h2
  have HM1 := Lib.hid hm1
  have HM2 := Lib.hid hm2
  clear hg h1 h2 hm1 hm2
  have HGr := Lib.hid (grow_any (m1 + m2) w (by omega) n2)
  go_enter Tryz.func77, Tryz.ntmps77
  go_wp2
  go_loop [3, 11] (fun s i => (s = .int .i64 0 ∧ i = .int .i64 0) ∨ (s = .int .i64 m1 ∧ i = .int .i64 1) ∨ (s = .int .i64 ((m1 + m2 : Nat) : Int) ∧ i = .int .i64 2)) (fun _ i => 2 - (intOf i).toNat)
  case atStart => exact .inl ⟨rfl, rfl⟩
  case round =>
    rcases hrel with ⟨rfl, rfl⟩ | ⟨rfl, rfl⟩ | ⟨rfl, rfl⟩
    · go_wp2
      go_round
      case rel => exact .inr (.inl ⟨by go_num, rfl⟩)
      case measure => simp [intOf]
    · go_wp2
      go_round
      case rel => exact .inr (.inr ⟨by go_num, rfl⟩)
      case measure => simp [intOf]
    · go_wp2_with (go_at_call 103; go_must (refine HGr.out.mono ?_; intro e w1 h; obtain ⟨v1, rfl, hr1, hb1⟩ := h; have HR1 := Lib.hid hr1; have HB1 := Lib.hid hb1; clear hr1 hb1))
      go_loopw [6, 27] (fun v i wr => Below w.heap.size w wr ∧ ((Row wr w.heap.size v [] ∧ i = .int .i64 0) ∨ (Row wr w.heap.size v l1 ∧ i = .int .i64 1) ∨ (Row wr w.heap.size v (l1 ++ l2) ∧ i = .int .i64 2))) (fun _ i _ => 2 - (intOf i).toNat)
      case atStart => exact ⟨HB1.out, .inl ⟨HR1.out, rfl⟩⟩
      case round =>
        obtain ⟨hb, ⟨hr, rfl⟩ | ⟨hr, rfl⟩ | ⟨hr, rfl⟩⟩ := hrel
        · have c0 : wr.cell? ⟨g, 0, none⟩ = some (.slice A1 m1 c1) := by have := (HG.out.below hb).cell 0; rw [HM1.out]; exact this
          have HR := Lib.hid hr
          have HB := Lib.hid hb
          have hz := hb.size
          clear hr hb
          go_wp2_with (at_builtin; (refine row_any rfl _ _ rfl w.heap.size _ [] rfl HR.out A1 m1 c1 wr.heap.size l1 rfl HM1.out.symm (H1.out.below HB.out).lies H1.out.nil (by have := HM1.out; have := HM2.out; (try simp only [List.length_nil]); omega) hz ?_; intro v2 w2 hr2 hb2; have HR2 := Lib.hid hr2; have HB2 := Lib.hid hb2; clear hr2 hb2))
          go_roundw
          case rel => exact ⟨HB.out.trans HB2.out, .inr (.inl ⟨by simpa using HR2.out, rfl⟩)⟩
          case measure => simp [intOf]
        · have c0 : wr.cell? ⟨g, 1, none⟩ = some (.slice A2 m2 c2) := by have := (HG.out.below hb).cell 1; rw [HM2.out]; exact this
          have HR := Lib.hid hr
          have HB := Lib.hid hb
          have hz := hb.size
          clear hr hb
          go_wp2_with (at_builtin; (refine row_any rfl _ _ rfl w.heap.size _ l1 rfl HR.out A2 m2 c2 wr.heap.size l2 rfl HM2.out.symm (H2.out.below HB.out).lies H2.out.nil (by have := HM1.out; have := HM2.out; (try simp only [List.length_append, List.length_nil]); omega) hz ?_; intro v2 w2 hr2 hb2; have HR2 := Lib.hid hr2; have HB2 := Lib.hid hb2; clear hr2 hb2))
          go_roundw
          case rel => exact ⟨HB.out.trans HB2.out, .inr (.inr ⟨HR2.out, rfl⟩)⟩
          case measure => simp [intOf]
        · have HR := Lib.hid hr
          have HB := Lib.hid hb
          clear hr hb
          go_wp2
          go_ret
          exact ⟨_, rfl, HR.out, HB.out⟩
set_option maxHeartbeats 1600000 in
theorem put_other (x : Sct) (A : Option Addr) (c : Nat) (w : World) (hp : Pc A c x.body w) (hn : x.name.length ≤ 15000000) (hb : x.body.length ≤ 15000000) (h0 : ¬ x.id.toNat = 0) :
    Calls Tryz.prog 49 #[secV x A c] w (BytesL (secputL x) w) := by
  have hW := Whole.made w 73 (secK x A c)
  have hb0 := below_box w (.cells (secK x A c) 73)
  have k0 := hW.cell 0
  have k1 := hW.cell 1
  have k2 := hW.cell 2
  simp only [secK, List.getElem?_toArray, List.getElem?_cons_zero, List.getElem?_cons_succ] at k0 k1 k2
  have HP0 := Lib.hid (hp.below hb0)
  have e0 : ((x.id.toNat : Int) == 0) = false := by simp; omega
  have hin : innerL x = x.body := by unfold innerL; rw [if_neg h0]
  obtain ⟨Y, hY⟩ : ∃ Y, Y = lebL (x.body.length : Int) ++ x.body := ⟨_, rfl⟩
  have hsp : secputL x = [x.id] ++ Y := by unfold secputL; rw [hin, hY, List.append_assoc]
  have hYl : Y.length ≤ 15000010 := by have := lebL_len (x.body.length : Int) (by omega); rw [hY, List.length_append]; omega
  have HZS := Lib.hid (fun W A c (h : Pc A c x.body W) => show Calls Tryz.prog 78 #[.slice A x.body.length c] W (BytesL Y W) from by rw [hY]; exact wsized_s h (by omega))
  have HSP := Lib.hid hsp
  have HYL := Lib.hid hYl
  clear h0 hin hsp hW hp hY hYl
  unfold secV
  unfold secK at HP0 hb0
  go_enter Tryz.func49, Tryz.ntmps49
  go_upto_region 4 with fail
  generalize w.alloc (.cells #[.int .u8 x.id.toNat, .string (S x.name), .slice A x.body.length c, .int .i64 x.off] 73) = W0 at *
  have HBE := Lib.hid hb0
  clear hb0 k1 k2
  refine wp_region_noPanic ?_
  refine wp_region_held_drew (S := fun W => W.cell? ⟨w.heap.size, 0, none⟩ = some (.int .u8 x.id.toNat) ∧ Below W0.heap.size W0 W) (by kernel_rfl) ⟨k0, (Below.refl _ _).drew⟩ (fun hHeld => ?_)
  (refine heldTake (i := 0) (oi := { dst := some 15, op := Op.fieldAddr 73 (Operand.tmp 1) 0, type := 0, pos := "sect.go:97", after := #[], guard := none }) (v := ?_) rfl (by kernel_rfl) (by kernel_rfl) (by kernel_rfl) (by assumption) ?_ ?_; rotate_left; focus (refine .inl ⟨by kernel_rfl, ?_⟩; intro w hSw; (try dsimp only at hSw); go_simp; (try with_reducible rfl)); (try simp only [Act.put, List.setIfInBounds_toArray, List.set_cons_zero, List.set_cons_succ]))
  (refine heldTake (i := 1) (oi := { dst := some 16, op := Op.load 5 (Operand.tmp 15), type := 5, pos := "sect.go:97", after := #[{ on := 0, ground := Ground.data }], guard := none }) (v := ?_) rfl (by kernel_rfl) (by kernel_rfl) (by kernel_rfl) (by assumption) ?_ ?_; rotate_left; focus (refine .inl ⟨by kernel_rfl, ?_⟩; intro w hSw; (try dsimp only at hSw); go_simp; (try with_reducible rfl)); (try simp only [Act.put, List.setIfInBounds_toArray, List.set_cons_zero, List.set_cons_succ]))
  (refine heldTake (i := 3) (oi := { dst := some 18, op := Op.move (Operand.tmp 3), type := 45, pos := "sect.go:97", after := #[], guard := none }) (v := ?_) rfl (by kernel_rfl) (by kernel_rfl) (by kernel_rfl) (by assumption) ?_ ?_; rotate_left; focus (refine .inl ⟨by kernel_rfl, ?_⟩; intro w hSw; (try dsimp only at hSw); go_simp; (try with_reducible rfl)); (try simp only [Act.put, List.setIfInBounds_toArray, List.set_cons_zero, List.set_cons_succ]))
  refine wpAnyH_ready (rs := [2, 4]) (by kernel_rfl) (by simp) ?_
  refine (AllReadyH.cons (o := { dst := some 17, op := Op.buildSlice 45 1 #[(0, Operand.tmp 16)], type := 45, pos := "sect.go:97", after := #[{ on := 1, ground := Ground.data }], guard := none }) rfl (fun K hK => ?_) (AllReadyH.cons (o := { dst := some 19, op := Op.call { callee := Callee.value (Operand.func 78), args := #[Operand.tmp 18], argTypes := #[45] }, type := 45, pos := "sect.go:97", after := #[{ on := 3, ground := Ground.data }], guard := none }) rfl (fun K hK => ?_) AllReadyH.nil))
  · refine step_build1 rfl _ rfl x.id rfl ?_; intro g2 wa2 hg2 hb2 hp2; have HB2 := Lib.hid hb2; have HP2 := Lib.hid hp2; clear hb2 hp2
    refine hK.out _ _ (hold1 hHeld HB2.out) (fun hHeld2 => ?_)
    clear hK K hHeld
    (try simp only [Act.put, List.setIfInBounds_toArray, List.set_cons_zero, List.set_cons_succ])
    refine wpAnyH_ready (rs := [4]) (by kernel_rfl) (by simp) ?_
    refine (AllReadyH.cons (o := { dst := some 19, op := Op.call { callee := Callee.value (Operand.func 78), args := #[Operand.tmp 18], argTypes := #[45] }, type := 45, pos := "sect.go:97", after := #[{ on := 3, ground := Ground.data }], guard := none }) rfl (fun K hK => ?_) AllReadyH.nil)
    go_simp
    (go_at_call 78; (with_reducible refine (HZS.out _ _ _ (HP0.out.below hHeld2.2)).mono ?_); rintro e w5 ⟨v5, rfl, hr5, hb5⟩; obtain ⟨A5, c5, rfl, hp5⟩ := hr5.pc; have HB4 := Lib.hid hb5; have HP4 := Lib.hid hp5; clear hb5 hp5 hr5)
    refine hK.out _ _ (hold1 hHeld2 HB4.out) (fun hHeld4 => ?_)
    clear hK K hHeld2
    (try simp only [Act.put, List.setIfInBounds_toArray, List.set_cons_zero, List.set_cons_succ])
    refine wpAnyH_ready (rs := [5]) (by kernel_rfl) (by simp) ?_
    refine (AllReadyH.cons (o := { dst := some 20, op := Op.buildSlice 165 2 #[(0, Operand.tmp 17), (1, Operand.tmp 19)], type := 165, pos := "sect.go:97", after := #[{ on := 2, ground := Ground.data }, { on := 4, ground := Ground.data }], guard := none }) rfl (fun K hK => ?_) AllReadyH.nil)
    refine step_build2 rfl _ _ rfl rfl rfl ?_; intro g7 wa7 hg7 hb7 hw7; have HB5 := Lib.hid hb7; have HW5 := Lib.hid hw7; clear hb7 hw7
    refine hK.out _ _ (hold1 hHeld4 HB5.out) (fun hHeld5 => ?_)
    clear hK K hHeld4
    (try simp only [Act.put, List.setIfInBounds_toArray, List.set_cons_zero, List.set_cons_succ])
    refine wpAnyH_ready (rs := [6]) (by kernel_rfl) (by simp) ?_
    refine (AllReadyH.cons (o := { dst := some 21, op := Op.call { callee := Callee.value (Operand.func 77), args := #[Operand.tmp 20], argTypes := #[165] }, type := 45, pos := "sect.go:97", after := #[{ on := 5, ground := Ground.data }, { on := 4, ground := Ground.chain }], guard := none }) rfl (fun K hK => ?_) AllReadyH.nil)
    go_simp
    (go_at_call 77; (with_reducible refine (concat2 (l1 := [x.id]) HW5.out (((((HP2.out).below HB4.out)).below HB5.out)) (((HP4.out).below HB5.out)) (by have : ([x.id] : List UInt8).length = 1 := rfl; omega) (by have : ([x.id] : List UInt8).length = 1 := rfl; have := HYL.out; omega)).mono ?_); rintro e w8 ⟨v8, rfl, hr8, hb8⟩; have hz8 := Nat.le_trans HBE.out.size hHeld5.2.size; have HB6 := Lib.hid hb8; have HR8 := Lib.hid hr8; clear hb8 hr8)
    refine hK.out _ _ (hold1 hHeld5 HB6.out) (fun hHeld6 => ?_)
    clear hK K hHeld5
    (try simp only [Act.put, List.setIfInBounds_toArray, List.set_cons_zero, List.set_cons_succ])
    (refine heldTake (i := 7) (oi := { dst := some 2, op := Op.assign (Operand.tmp 21), type := 45, pos := "sect.go:97", after := #[{ on := 6, ground := Ground.data }, { on := 6, ground := Ground.chain }, { on := 0, ground := Ground.phase }, { on := 1, ground := Ground.phase }, { on := 2, ground := Ground.phase }, { on := 3, ground := Ground.phase }, { on := 4, ground := Ground.phase }, { on := 5, ground := Ground.phase }, { on := 6, ground := Ground.phase }], guard := none }) (v := ?_) rfl (by kernel_rfl) (by kernel_rfl) (by kernel_rfl) (by assumption) ?_ ?_; rotate_left; focus (refine .inl ⟨by kernel_rfl, ?_⟩; intro w hSw; (try dsimp only at hSw); go_simp; (try with_reducible rfl)); (try simp only [Act.put, List.setIfInBounds_toArray, List.set_cons_zero, List.set_cons_succ]))
    refine wpAnyH_done (by kernel_rfl) ?_ _
    refine NoPanic.normal ?_
    have hLast := hHeld6
    clear hHeld6
    go_wp2
    go_ret
    exact ⟨_, rfl, by rw [HSP.out]; exact HR8.out.mono hz8, HBE.out.trans (hLast.2.mono HBE.out.size)⟩
  · go_simp
    (go_at_call 78; (with_reducible refine (HZS.out _ _ _ (HP0.out.below hHeld.2)).mono ?_); rintro e w5 ⟨v5, rfl, hr5, hb5⟩; obtain ⟨A5, c5, rfl, hp5⟩ := hr5.pc; have HB4 := Lib.hid hb5; have HP4 := Lib.hid hp5; clear hb5 hp5 hr5)
    refine hK.out _ _ (hold1 hHeld HB4.out) (fun hHeld4 => ?_)
    clear hK K hHeld
    (try simp only [Act.put, List.setIfInBounds_toArray, List.set_cons_zero, List.set_cons_succ])
    refine wpAnyH_ready (rs := [2]) (by kernel_rfl) (by simp) ?_
    refine (AllReadyH.cons (o := { dst := some 17, op := Op.buildSlice 45 1 #[(0, Operand.tmp 16)], type := 45, pos := "sect.go:97", after := #[{ on := 1, ground := Ground.data }], guard := none }) rfl (fun K hK => ?_) AllReadyH.nil)
    refine step_build1 rfl _ rfl x.id rfl ?_; intro g2 wa2 hg2 hb2 hp2; have HB2 := Lib.hid hb2; have HP2 := Lib.hid hp2; clear hb2 hp2
    refine hK.out _ _ (hold1 hHeld4 HB2.out) (fun hHeld2 => ?_)
    clear hK K hHeld4
    (try simp only [Act.put, List.setIfInBounds_toArray, List.set_cons_zero, List.set_cons_succ])
    refine wpAnyH_ready (rs := [5]) (by kernel_rfl) (by simp) ?_
    refine (AllReadyH.cons (o := { dst := some 20, op := Op.buildSlice 165 2 #[(0, Operand.tmp 17), (1, Operand.tmp 19)], type := 165, pos := "sect.go:97", after := #[{ on := 2, ground := Ground.data }, { on := 4, ground := Ground.data }], guard := none }) rfl (fun K hK => ?_) AllReadyH.nil)
    refine step_build2 rfl _ _ rfl rfl rfl ?_; intro g7 wa7 hg7 hb7 hw7; have HB5 := Lib.hid hb7; have HW5 := Lib.hid hw7; clear hb7 hw7
    refine hK.out _ _ (hold1 hHeld2 HB5.out) (fun hHeld5 => ?_)
    clear hK K hHeld2
    (try simp only [Act.put, List.setIfInBounds_toArray, List.set_cons_zero, List.set_cons_succ])
    refine wpAnyH_ready (rs := [6]) (by kernel_rfl) (by simp) ?_
    refine (AllReadyH.cons (o := { dst := some 21, op := Op.call { callee := Callee.value (Operand.func 77), args := #[Operand.tmp 20], argTypes := #[165] }, type := 45, pos := "sect.go:97", after := #[{ on := 5, ground := Ground.data }, { on := 4, ground := Ground.chain }], guard := none }) rfl (fun K hK => ?_) AllReadyH.nil)
    go_simp
    (go_at_call 77; (with_reducible refine (concat2 (l1 := [x.id]) HW5.out (((HP2.out).below HB5.out)) (((((HP4.out).below HB2.out)).below HB5.out)) (by have : ([x.id] : List UInt8).length = 1 := rfl; omega) (by have : ([x.id] : List UInt8).length = 1 := rfl; have := HYL.out; omega)).mono ?_); rintro e w8 ⟨v8, rfl, hr8, hb8⟩; have hz8 := Nat.le_trans HBE.out.size hHeld5.2.size; have HB6 := Lib.hid hb8; have HR8 := Lib.hid hr8; clear hb8 hr8)
    refine hK.out _ _ (hold1 hHeld5 HB6.out) (fun hHeld6 => ?_)
    clear hK K hHeld5
    (try simp only [Act.put, List.setIfInBounds_toArray, List.set_cons_zero, List.set_cons_succ])
    (refine heldTake (i := 7) (oi := { dst := some 2, op := Op.assign (Operand.tmp 21), type := 45, pos := "sect.go:97", after := #[{ on := 6, ground := Ground.data }, { on := 6, ground := Ground.chain }, { on := 0, ground := Ground.phase }, { on := 1, ground := Ground.phase }, { on := 2, ground := Ground.phase }, { on := 3, ground := Ground.phase }, { on := 4, ground := Ground.phase }, { on := 5, ground := Ground.phase }, { on := 6, ground := Ground.phase }], guard := none }) (v := ?_) rfl (by kernel_rfl) (by kernel_rfl) (by kernel_rfl) (by assumption) ?_ ?_; rotate_left; focus (refine .inl ⟨by kernel_rfl, ?_⟩; intro w hSw; (try dsimp only at hSw); go_simp; (try with_reducible rfl)); (try simp only [Act.put, List.setIfInBounds_toArray, List.set_cons_zero, List.set_cons_succ]))
    refine wpAnyH_done (by kernel_rfl) ?_ _
    refine NoPanic.normal ?_
    have hLast := hHeld6
    clear hHeld6
    go_wp2
    go_ret
    exact ⟨_, rfl, by rw [HSP.out]; exact HR8.out.mono hz8, HBE.out.trans (hLast.2.mono HBE.out.size)⟩
set_option maxHeartbeats 1600000 in
theorem put_custom (x : Sct) (A : Option Addr) (c : Nat) (w : World) (hp : Pc A c x.body w) (hn : x.name.length ≤ 15000000) (hb : x.body.length ≤ 15000000) (h0 : x.id.toNat = 0) :
    Calls Tryz.prog 49 #[secV x A c] w (BytesL (secputL x) w) := by
  have hW := Whole.made w 73 (secK x A c)
  have hb0 := below_box w (.cells (secK x A c) 73)
  have k0 := hW.cell 0
  have k1 := hW.cell 1
  have k2 := hW.cell 2
  simp only [secK, List.getElem?_toArray, List.getElem?_cons_zero, List.getElem?_cons_succ] at k0 k1 k2
  have HP0 := Lib.hid (hp.below hb0)
  have e0 : ((x.id.toNat : Int) == 0) = true := by simp; omega
  have hin : innerL x = lebL x.name.length ++ x.name ++ x.body := by unfold innerL; rw [if_pos h0]
  have hl0 := innerL_len hn hb (by omega)
  obtain ⟨T, hT⟩ : ∃ T, T = lebL (x.name.length : Int) ++ x.name := ⟨_, rfl⟩
  obtain ⟨L, hL⟩ : ∃ L, L = innerL x := ⟨_, rfl⟩
  rw [← hL] at hl0
  obtain ⟨Y, hY⟩ : ∃ Y, Y = lebL (L.length : Int) ++ L := ⟨_, rfl⟩
  have hsp : secputL x = [x.id] ++ Y := by unfold secputL; rw [hY, hL, List.append_assoc]
  have hYl : Y.length ≤ 39000000 := by have := lebL_len (L.length : Int) (by omega); rw [hY, List.length_append]; omega
  have hLT : T ++ x.body = L := by rw [hL, hin, hT]
  have HLT := Lib.hid hLT
  have hTl : T.length + x.body.length ≤ 40000000 := by have := congrArg List.length hLT; rw [List.length_append] at this; omega
  have HZS := Lib.hid (fun W A c (h : Pc A c L W) => show Calls Tryz.prog 78 #[.slice A L.length c] W (BytesL Y W) from by rw [hY]; exact wsized_s h (by omega))
  have HNM := Lib.hid (fun W => show Calls Tryz.prog 76 #[.string (S x.name)] W (BytesL T W) from by rw [hT]; exact wname_s x.name W hn)
  have HSP := Lib.hid hsp
  have HYL := Lib.hid hYl
  have HTL := Lib.hid hTl
  clear h0 hin hsp hW hp hL hl0 hT hY hYl hLT hTl
  unfold secV
  unfold secK at HP0 hb0
  go_enter Tryz.func49, Tryz.ntmps49
  go_upto_region 3 with fail
  generalize w.alloc (.cells #[.int .u8 x.id.toNat, .string (S x.name), .slice A x.body.length c, .int .i64 x.off] 73) = W0 at *
  have HBE := Lib.hid hb0
  clear hb0
  have hlt0 : w.heap.size < W0.heap.size := block_lt_of_cell k1
  go_cut [3] (fun s W => ∃ A c, s = .slice A L.length c ∧ Pc A c L W ∧ Below W0.heap.size W0 W)
  case first =>
    refine wp_region_noPanic ?_
    refine wp_region_held_drew (S := fun W => W.cell? ⟨w.heap.size, 1, none⟩ = some (.string (S x.name)) ∧ W.cell? ⟨w.heap.size, 2, none⟩ = some (.slice A x.body.length c) ∧ Below W0.heap.size W0 W) (by kernel_rfl) ⟨k1, k2, (Below.refl _ _).drew⟩ (fun hHeld => ?_)
    (refine heldTake (i := 0) (oi := { dst := some 9, op := Op.fieldAddr 73 (Operand.tmp 1) 1, type := 0, pos := "sect.go:95", after := #[], guard := none }) (v := ?_) rfl (by kernel_rfl) (by kernel_rfl) (by kernel_rfl) (by assumption) ?_ ?_; rotate_left; focus (refine .inl ⟨by kernel_rfl, ?_⟩; intro w hSw; (try dsimp only at hSw); go_simp; (try with_reducible rfl)); (try simp only [Act.put, List.setIfInBounds_toArray, List.set_cons_zero, List.set_cons_succ]))
    (refine heldTake (i := 1) (oi := { dst := some 10, op := Op.load 9 (Operand.tmp 9), type := 9, pos := "sect.go:95", after := #[{ on := 0, ground := Ground.data }], guard := none }) (v := ?_) rfl (by kernel_rfl) (by kernel_rfl) (by kernel_rfl) (by assumption) ?_ ?_; rotate_left; focus (refine .inl ⟨by kernel_rfl, ?_⟩; intro w hSw; (try dsimp only at hSw); go_simp; (try with_reducible rfl)); (try simp only [Act.put, List.setIfInBounds_toArray, List.set_cons_zero, List.set_cons_succ]))
    (refine heldTake (i := 3) (oi := { dst := some 12, op := Op.fieldAddr 73 (Operand.tmp 1) 2, type := 0, pos := "sect.go:95", after := #[], guard := none }) (v := ?_) rfl (by kernel_rfl) (by kernel_rfl) (by kernel_rfl) (by assumption) ?_ ?_; rotate_left; focus (refine .inl ⟨by kernel_rfl, ?_⟩; intro w hSw; (try dsimp only at hSw); go_simp; (try with_reducible rfl)); (try simp only [Act.put, List.setIfInBounds_toArray, List.set_cons_zero, List.set_cons_succ]))
    (refine heldTake (i := 4) (oi := { dst := some 13, op := Op.load 45 (Operand.tmp 12), type := 45, pos := "sect.go:95", after := #[{ on := 3, ground := Ground.data }], guard := none }) (v := ?_) rfl (by kernel_rfl) (by kernel_rfl) (by kernel_rfl) (by assumption) ?_ ?_; rotate_left; focus (refine .inl ⟨by kernel_rfl, ?_⟩; intro w hSw; (try dsimp only at hSw); go_simp; (try with_reducible rfl)); (try simp only [Act.put, List.setIfInBounds_toArray, List.set_cons_zero, List.set_cons_succ]))
    refine wpAnyH_ready (rs := [2]) (by kernel_rfl) (by simp) ?_
    refine (AllReadyH.cons (o := { dst := some 11, op := Op.call { callee := Callee.value (Operand.func 76), args := #[Operand.tmp 10], argTypes := #[9] }, type := 45, pos := "sect.go:95", after := #[{ on := 1, ground := Ground.data }], guard := none }) rfl (fun K hK => ?_) AllReadyH.nil)
    go_simp
    (go_at_call 76; (with_reducible refine (HNM.out _).mono ?_); rintro e w3 ⟨v3, rfl, hr3, hb3⟩; have HB2 := Lib.hid hb3; have HR3 := Lib.hid hr3; clear hb3 hr3)
    refine hK.out _ _ (hold2 hHeld HB2.out) (fun hHeld2 => ?_)
    clear hK K hHeld
    (try simp only [Act.put, List.setIfInBounds_toArray, List.set_cons_zero, List.set_cons_succ])
    refine wpAnyH_ready (rs := [5]) (by kernel_rfl) (by simp) ?_
    refine (AllReadyH.cons (o := { dst := some 14, op := Op.call { callee := Callee.builtin Builtin.append, args := #[Operand.tmp 11, Operand.tmp 13], argTypes := #[45, 45] }, type := 45, pos := "sect.go:95", after := #[{ on := 2, ground := Ground.data }, { on := 4, ground := Ground.data }, { on := 2, ground := Ground.chain }], guard := none }) rfl (fun K hK => ?_) AllReadyH.nil)
    refine step_anyS rfl _ _ rfl _ _ T rfl HR3.out A x.body.length c x.body rfl rfl (HP0.out.below hHeld2.2.2) HTL.out HB2.out.size ?_; intro v5 w5 hr5 hb5; rw [HLT.out] at hr5; obtain ⟨A5, c5, rfl, hp5⟩ := hr5.pc; have HP5 := Lib.hid hp5; have hk5 := And.intro ((hb5.cell (p := ⟨w.heap.size, 1, none⟩) hlt0).trans hHeld2.1) (And.intro ((hb5.cell (p := ⟨w.heap.size, 2, none⟩) hlt0).trans hHeld2.2.1) (hHeld2.2.2.trans (hb5.mono (Nat.le_refl _)))); clear hr5 hp5 hb5
    refine hK.out _ _ hk5 (fun hHeld5 => ?_)
    clear hK K hHeld2
    (try simp only [Act.put, List.setIfInBounds_toArray, List.set_cons_zero, List.set_cons_succ])
    (refine heldTake (i := 6) (oi := { dst := some 3, op := Op.assign (Operand.tmp 14), type := 45, pos := "sect.go:95", after := #[{ on := 5, ground := Ground.data }, { on := 5, ground := Ground.chain }, { on := 0, ground := Ground.phase }, { on := 1, ground := Ground.phase }, { on := 2, ground := Ground.phase }, { on := 3, ground := Ground.phase }, { on := 4, ground := Ground.phase }, { on := 5, ground := Ground.phase }], guard := none }) (v := ?_) rfl (by kernel_rfl) (by kernel_rfl) (by kernel_rfl) (by assumption) ?_ ?_; rotate_left; focus (refine .inl ⟨by kernel_rfl, ?_⟩; intro w hSw; (try dsimp only at hSw); go_simp; (try with_reducible rfl)); (try simp only [Act.put, List.setIfInBounds_toArray, List.set_cons_zero, List.set_cons_succ]))
    refine wpAnyH_done (by kernel_rfl) ?_ _
    refine NoPanic.normal ?_
    have hLast := hHeld5
    clear hHeld5
    go_wp2
    go_meet
    exact ⟨A5, c5, rfl, HP5.out, hLast.2.2⟩
  case rest =>
    obtain ⟨A9, c9, rfl, hp9, hb9⟩ := hcut
    have k9 := (hb9.cell (p := ⟨w.heap.size, 0, none⟩) (block_lt_of_cell k0)).trans k0
    have HBE9 := Lib.hid (HBE.out.trans (hb9.mono HBE.out.size))
    have HP9 := Lib.hid hp9
    clear hp9 hb9 k0 k1 k2 HP0 HBE
    go_upto_region 4 with fail
    refine wp_region_noPanic ?_
    refine wp_region_held_drew (S := fun W => W.cell? ⟨w.heap.size, 0, none⟩ = some (.int .u8 x.id.toNat) ∧ Below wc.heap.size wc W) (by kernel_rfl) ⟨k9, (Below.refl _ _).drew⟩ (fun hHeld => ?_)
    (refine heldTake (i := 0) (oi := { dst := some 15, op := Op.fieldAddr 73 (Operand.tmp 1) 0, type := 0, pos := "sect.go:97", after := #[], guard := none }) (v := ?_) rfl (by kernel_rfl) (by kernel_rfl) (by kernel_rfl) (by assumption) ?_ ?_; rotate_left; focus (refine .inl ⟨by kernel_rfl, ?_⟩; intro w hSw; (try dsimp only at hSw); go_simp; (try with_reducible rfl)); (try simp only [Act.put, List.setIfInBounds_toArray, List.set_cons_zero, List.set_cons_succ]))
    (refine heldTake (i := 1) (oi := { dst := some 16, op := Op.load 5 (Operand.tmp 15), type := 5, pos := "sect.go:97", after := #[{ on := 0, ground := Ground.data }], guard := none }) (v := ?_) rfl (by kernel_rfl) (by kernel_rfl) (by kernel_rfl) (by assumption) ?_ ?_; rotate_left; focus (refine .inl ⟨by kernel_rfl, ?_⟩; intro w hSw; (try dsimp only at hSw); go_simp; (try with_reducible rfl)); (try simp only [Act.put, List.setIfInBounds_toArray, List.set_cons_zero, List.set_cons_succ]))
    (refine heldTake (i := 3) (oi := { dst := some 18, op := Op.move (Operand.tmp 3), type := 45, pos := "sect.go:97", after := #[], guard := none }) (v := ?_) rfl (by kernel_rfl) (by kernel_rfl) (by kernel_rfl) (by assumption) ?_ ?_; rotate_left; focus (refine .inl ⟨by kernel_rfl, ?_⟩; intro w hSw; (try dsimp only at hSw); go_simp; (try with_reducible rfl)); (try simp only [Act.put, List.setIfInBounds_toArray, List.set_cons_zero, List.set_cons_succ]))
    refine wpAnyH_ready (rs := [2, 4]) (by kernel_rfl) (by simp) ?_
    refine (AllReadyH.cons (o := { dst := some 17, op := Op.buildSlice 45 1 #[(0, Operand.tmp 16)], type := 45, pos := "sect.go:97", after := #[{ on := 1, ground := Ground.data }], guard := none }) rfl (fun K hK => ?_) (AllReadyH.cons (o := { dst := some 19, op := Op.call { callee := Callee.value (Operand.func 78), args := #[Operand.tmp 18], argTypes := #[45] }, type := 45, pos := "sect.go:97", after := #[{ on := 3, ground := Ground.data }], guard := none }) rfl (fun K hK => ?_) AllReadyH.nil))
    · refine step_build1 rfl _ rfl x.id rfl ?_; intro g2 wa2 hg2 hb2 hp2; have HB2 := Lib.hid hb2; have HP2 := Lib.hid hp2; clear hb2 hp2
      refine hK.out _ _ (hold1 hHeld HB2.out) (fun hHeld2 => ?_)
      clear hK K hHeld
      (try simp only [Act.put, List.setIfInBounds_toArray, List.set_cons_zero, List.set_cons_succ])
      refine wpAnyH_ready (rs := [4]) (by kernel_rfl) (by simp) ?_
      refine (AllReadyH.cons (o := { dst := some 19, op := Op.call { callee := Callee.value (Operand.func 78), args := #[Operand.tmp 18], argTypes := #[45] }, type := 45, pos := "sect.go:97", after := #[{ on := 3, ground := Ground.data }], guard := none }) rfl (fun K hK => ?_) AllReadyH.nil)
      go_simp
      (go_at_call 78; (with_reducible refine (HZS.out _ _ _ (HP9.out.below hHeld2.2)).mono ?_); rintro e w5 ⟨v5, rfl, hr5, hb5⟩; obtain ⟨A5, c5, rfl, hp5⟩ := hr5.pc; have HB4 := Lib.hid hb5; have HP4 := Lib.hid hp5; clear hb5 hp5 hr5)
      refine hK.out _ _ (hold1 hHeld2 HB4.out) (fun hHeld4 => ?_)
      clear hK K hHeld2
      (try simp only [Act.put, List.setIfInBounds_toArray, List.set_cons_zero, List.set_cons_succ])
      refine wpAnyH_ready (rs := [5]) (by kernel_rfl) (by simp) ?_
      refine (AllReadyH.cons (o := { dst := some 20, op := Op.buildSlice 165 2 #[(0, Operand.tmp 17), (1, Operand.tmp 19)], type := 165, pos := "sect.go:97", after := #[{ on := 2, ground := Ground.data }, { on := 4, ground := Ground.data }], guard := none }) rfl (fun K hK => ?_) AllReadyH.nil)
      refine step_build2 rfl _ _ rfl rfl rfl ?_; intro g7 wa7 hg7 hb7 hw7; have HB5 := Lib.hid hb7; have HW5 := Lib.hid hw7; clear hb7 hw7
      refine hK.out _ _ (hold1 hHeld4 HB5.out) (fun hHeld5 => ?_)
      clear hK K hHeld4
      (try simp only [Act.put, List.setIfInBounds_toArray, List.set_cons_zero, List.set_cons_succ])
      refine wpAnyH_ready (rs := [6]) (by kernel_rfl) (by simp) ?_
      refine (AllReadyH.cons (o := { dst := some 21, op := Op.call { callee := Callee.value (Operand.func 77), args := #[Operand.tmp 20], argTypes := #[165] }, type := 45, pos := "sect.go:97", after := #[{ on := 5, ground := Ground.data }, { on := 4, ground := Ground.chain }], guard := none }) rfl (fun K hK => ?_) AllReadyH.nil)
      go_simp
      (go_at_call 77; (with_reducible refine (concat2 (l1 := [x.id]) HW5.out (((((HP2.out).below HB4.out)).below HB5.out)) (((HP4.out).below HB5.out)) (by have : ([x.id] : List UInt8).length = 1 := rfl; omega) (by have : ([x.id] : List UInt8).length = 1 := rfl; have := HYL.out; omega)).mono ?_); rintro e w8 ⟨v8, rfl, hr8, hb8⟩; have hz8 := Nat.le_trans HBE9.out.size hHeld5.2.size; have HB6 := Lib.hid hb8; have HR8 := Lib.hid hr8; clear hb8 hr8)
      refine hK.out _ _ (hold1 hHeld5 HB6.out) (fun hHeld6 => ?_)
      clear hK K hHeld5
      (try simp only [Act.put, List.setIfInBounds_toArray, List.set_cons_zero, List.set_cons_succ])
      (refine heldTake (i := 7) (oi := { dst := some 2, op := Op.assign (Operand.tmp 21), type := 45, pos := "sect.go:97", after := #[{ on := 6, ground := Ground.data }, { on := 6, ground := Ground.chain }, { on := 0, ground := Ground.phase }, { on := 1, ground := Ground.phase }, { on := 2, ground := Ground.phase }, { on := 3, ground := Ground.phase }, { on := 4, ground := Ground.phase }, { on := 5, ground := Ground.phase }, { on := 6, ground := Ground.phase }], guard := none }) (v := ?_) rfl (by kernel_rfl) (by kernel_rfl) (by kernel_rfl) (by assumption) ?_ ?_; rotate_left; focus (refine .inl ⟨by kernel_rfl, ?_⟩; intro w hSw; (try dsimp only at hSw); go_simp; (try with_reducible rfl)); (try simp only [Act.put, List.setIfInBounds_toArray, List.set_cons_zero, List.set_cons_succ]))
      refine wpAnyH_done (by kernel_rfl) ?_ _
      refine NoPanic.normal ?_
      have hLast := hHeld6
      clear hHeld6
      go_wp2
      go_ret
      exact ⟨_, rfl, by rw [HSP.out]; exact HR8.out.mono hz8, HBE9.out.trans (hLast.2.mono HBE9.out.size)⟩
    · go_simp
      (go_at_call 78; (with_reducible refine (HZS.out _ _ _ (HP9.out.below hHeld.2)).mono ?_); rintro e w5 ⟨v5, rfl, hr5, hb5⟩; obtain ⟨A5, c5, rfl, hp5⟩ := hr5.pc; have HB4 := Lib.hid hb5; have HP4 := Lib.hid hp5; clear hb5 hp5 hr5)
      refine hK.out _ _ (hold1 hHeld HB4.out) (fun hHeld4 => ?_)
      clear hK K hHeld
      (try simp only [Act.put, List.setIfInBounds_toArray, List.set_cons_zero, List.set_cons_succ])
      refine wpAnyH_ready (rs := [2]) (by kernel_rfl) (by simp) ?_
      refine (AllReadyH.cons (o := { dst := some 17, op := Op.buildSlice 45 1 #[(0, Operand.tmp 16)], type := 45, pos := "sect.go:97", after := #[{ on := 1, ground := Ground.data }], guard := none }) rfl (fun K hK => ?_) AllReadyH.nil)
      refine step_build1 rfl _ rfl x.id rfl ?_; intro g2 wa2 hg2 hb2 hp2; have HB2 := Lib.hid hb2; have HP2 := Lib.hid hp2; clear hb2 hp2
      refine hK.out _ _ (hold1 hHeld4 HB2.out) (fun hHeld2 => ?_)
      clear hK K hHeld4
      (try simp only [Act.put, List.setIfInBounds_toArray, List.set_cons_zero, List.set_cons_succ])
      refine wpAnyH_ready (rs := [5]) (by kernel_rfl) (by simp) ?_
      refine (AllReadyH.cons (o := { dst := some 20, op := Op.buildSlice 165 2 #[(0, Operand.tmp 17), (1, Operand.tmp 19)], type := 165, pos := "sect.go:97", after := #[{ on := 2, ground := Ground.data }, { on := 4, ground := Ground.data }], guard := none }) rfl (fun K hK => ?_) AllReadyH.nil)
      refine step_build2 rfl _ _ rfl rfl rfl ?_; intro g7 wa7 hg7 hb7 hw7; have HB5 := Lib.hid hb7; have HW5 := Lib.hid hw7; clear hb7 hw7
      refine hK.out _ _ (hold1 hHeld2 HB5.out) (fun hHeld5 => ?_)
      clear hK K hHeld2
      (try simp only [Act.put, List.setIfInBounds_toArray, List.set_cons_zero, List.set_cons_succ])
      refine wpAnyH_ready (rs := [6]) (by kernel_rfl) (by simp) ?_
      refine (AllReadyH.cons (o := { dst := some 21, op := Op.call { callee := Callee.value (Operand.func 77), args := #[Operand.tmp 20], argTypes := #[165] }, type := 45, pos := "sect.go:97", after := #[{ on := 5, ground := Ground.data }, { on := 4, ground := Ground.chain }], guard := none }) rfl (fun K hK => ?_) AllReadyH.nil)
      go_simp
      (go_at_call 77; (with_reducible refine (concat2 (l1 := [x.id]) HW5.out (((HP2.out).below HB5.out)) (((((HP4.out).below HB2.out)).below HB5.out)) (by have : ([x.id] : List UInt8).length = 1 := rfl; omega) (by have : ([x.id] : List UInt8).length = 1 := rfl; have := HYL.out; omega)).mono ?_); rintro e w8 ⟨v8, rfl, hr8, hb8⟩; have hz8 := Nat.le_trans HBE9.out.size hHeld5.2.size; have HB6 := Lib.hid hb8; have HR8 := Lib.hid hr8; clear hb8 hr8)
      refine hK.out _ _ (hold1 hHeld5 HB6.out) (fun hHeld6 => ?_)
      clear hK K hHeld5
      (try simp only [Act.put, List.setIfInBounds_toArray, List.set_cons_zero, List.set_cons_succ])
      (refine heldTake (i := 7) (oi := { dst := some 2, op := Op.assign (Operand.tmp 21), type := 45, pos := "sect.go:97", after := #[{ on := 6, ground := Ground.data }, { on := 6, ground := Ground.chain }, { on := 0, ground := Ground.phase }, { on := 1, ground := Ground.phase }, { on := 2, ground := Ground.phase }, { on := 3, ground := Ground.phase }, { on := 4, ground := Ground.phase }, { on := 5, ground := Ground.phase }, { on := 6, ground := Ground.phase }], guard := none }) (v := ?_) rfl (by kernel_rfl) (by kernel_rfl) (by kernel_rfl) (by assumption) ?_ ?_; rotate_left; focus (refine .inl ⟨by kernel_rfl, ?_⟩; intro w hSw; (try dsimp only at hSw); go_simp; (try with_reducible rfl)); (try simp only [Act.put, List.setIfInBounds_toArray, List.set_cons_zero, List.set_cons_succ]))
      refine wpAnyH_done (by kernel_rfl) ?_ _
      refine NoPanic.normal ?_
      have hLast := hHeld6
      clear hHeld6
      go_wp2
      go_ret
      exact ⟨_, rfl, by rw [HSP.out]; exact HR8.out.mono hz8, HBE9.out.trans (hLast.2.mono HBE9.out.size)⟩
theorem put_sect (x : Sct) (A : Option Addr) (c : Nat) (w : World) (hp : Pc A c x.body w) (hn : x.name.length ≤ 15000000) (hb : x.body.length ≤ 15000000) :
    Calls Tryz.prog 49 #[secV x A c] w (BytesL (secputL x) w) := by
  by_cases h0 : x.id.toNat = 0
  · exact put_custom x A c w hp hn hb h0
  · exact put_other x A c w hp hn hb h0
end Go.Proofs.YtkleadjkebofpaaGreatDoor
