/- abort.Value of a function that ends well, whatever it hands back: api.Global. (By gen/genVal.py.) -/
import Derived.Test.YtebgmfjgapmpfaaGreatDoorQa11
import Derived.Test.YtebgmfjgapmpfaaGreatDoorQa07
import Derived.Test.YtebgmfjgapmpfaaGreatDoorQa02
import Derived.Test.YtebgmfjgapmpfaaGreatDoorQa04
import Derived.RegionTactic
import Derived.Test.YtebgmfjgapmpfaaGreatDoorQa10
import Derived.Test.YtebgmfjgapmpfaaGreatDoorQa09
import Derived.Deep.CutBlock
import Derived.Deep.DeepCutAuto
import Derived.Test.YtebgmfjgapmpfaaGreatDoorTie
import Derived.Lib.LaidIn
import Derived.Lib.LaidU8
import Derived.LaidMore
import Derived.MakeChecks
import Derived.Stop.Joined
import Derived.OpenShut
import Derived.ProofKit
import Derived.ShutString
import Derived.ChangeOld
import Derived.Deep.Slices
import Derived.Lib.SmallJoins
import Derived.OwnWalk
import Derived.Laws.AppendOwn
import Derived.Deep.SlicePairs
namespace Go.Proofs.YtebgmfjgapmpfaaGreatDoor
open Go.RowKit
set_option linter.unusedVariables false
set_option maxRecDepth 100000

section
variable {T : SlotG → World → Prop}
/-- What Value's closure leaves behind, seen from Value's beginning. -/
structure VSG (T : SlotG → World → Prop) (w : World) (q : Nat) (x : SlotG) (w1 : World) : Prop where
  kept : T x w1
  grown : w.grownBy w1 (some q)
  val : Whole w1 (w.heap.size + 3) 46 #[.int .u8 x.1.t.toNat, .bool x.1.m, .int .u8 x.1.i.op.toNat, .int .u64 x.1.i.a, .int .u64 x.1.i.b, .slice x.2.1 x.1.i.l.length x.2.2]
  r1 : Whole w1 (w.heap.size + 1) 46 #[.int .u8 0, .bool false, .int .u8 0, .int .u64 0, .int .u64 0, .slice none 0 0]
  r2 : Whole w1 (w.heap.size + 2) 32 #[.int .i64 0, .int .i64 0]
end
end Go.Proofs.YtebgmfjgapmpfaaGreatDoor

/- abort.Value of a function that ends well, whatever it hands back: api.Instr. (By gen/genVal.py.) -/
namespace Go.Proofs.YtebgmfjgapmpfaaGreatDoor
open Go.RowKit
set_option linter.unusedVariables false
set_option maxRecDepth 100000

section
variable {T : (I × Option Addr × Nat) → World → Prop}
/-- What Value's closure leaves behind, seen from Value's beginning. -/
structure VSI (T : (I × Option Addr × Nat) → World → Prop) (w : World) (q : Nat) (x : (I × Option Addr × Nat)) (w1 : World) : Prop where
  kept : T x w1
  grown : w.grownBy w1 (some q)
  val : Whole w1 (w.heap.size + 3) 44 #[.int .u8 x.1.op.toNat, .int .u64 x.1.a, .int .u64 x.1.b, .slice x.2.1 x.1.l.length x.2.2]
  r1 : Whole w1 (w.heap.size + 1) 44 #[.int .u8 0, .int .u64 0, .int .u64 0, .slice none 0 0]
  r2 : Whole w1 (w.heap.size + 2) 32 #[.int .i64 0, .int .i64 0]
end
end Go.Proofs.YtebgmfjgapmpfaaGreatDoor

/- abort.Value of a function that aborts; scan.Over of any bytes. -/
namespace Go.Proofs.YtebgmfjgapmpfaaGreatDoor
open Go.RowKit
set_option linter.unusedVariables false
set_option maxRecDepth 100000

/-- bytes.Clone of any bytes. -/
theorem clone_any {w : World} {A : Option Addr} {cap : Nat} {l : List UInt8} (hl : Lies w w.heap.size A (cells (nums l))) (hA : A = none → cap = 0) (hc : l.length ≤ 1000000) :
    Calls Tryz.prog 44 #[.slice A l.length cap] w (BytesL l w) := by
  by_cases h0 : 0 < l.length
  · exact clone_ok hl h0 hc
  · have hl0 : l = [] := List.eq_nil_of_length_eq_zero (by omega)
    subst hl0
    cases A with
    | none =>
      obtain rfl := hA rfl
      show Calls Tryz.prog 44 #[.slice none 0 0] w (BytesL [] w)
      have hnil : ∀ w : World, (binOp BinOp.eql 22 (.slice none 0 0) (.slice none 0 0)).run Tryz.prog w = .ok (.bool true) w := fun w => by
        simp only [binOp]
        simp [run_equal_slice_nil w 22 5 _ _ _ Tryz.underlying22]
      clear hl h0 hc hA
      go_enter Tryz.func44, Tryz.ntmps44
      go_wp2
      go_ret
      exact ⟨_, rfl, Row.nil _ _, Below.refl _ _⟩
    | some ad =>
      show Calls Tryz.prog 44 #[.slice (some ad) 0 cap] w (BytesL [] w)
      have hnil : ∀ w : World, (binOp BinOp.eql 22 (.slice (some ad) 0 cap) (.slice none 0 0)).run Tryz.prog w = .ok (.bool false) w := fun w => by
        simp only [binOp]
        simp [run_equal_slice_nil w 22 5 _ _ _ Tryz.underlying22]
      have R0 := Lib.hid (Row.made w [] w.heap.size w.heap.size rfl (Nat.le_refl _) (by simp))
      have HL := Lib.hid (hl.below (below_box w (.cells #[] 5)) (Nat.le_refl _))
      clear hl h0 hc hA
      go_enter Tryz.func44, Tryz.ntmps44
      go_wp2_with (at_builtin; (refine row_any rfl _ _ rfl w.heap.size _ [] rfl R0.out (some ad) 0 cap _ [] rfl rfl HL.out (fun e => by cases e) (by simp) (by simp) ?_; intro v2 w2 hr2 hb2; have HR2 := Lib.hid hr2; have HB2 := Lib.hid hb2; clear hr2 hb2))
      go_ret
      exact ⟨_, rfl, HR2.out, (below_box w _).trans HB2.out⟩
theorem over_any {w : World} {A : Option Addr} {cap : Nat} {l : List UInt8} (hl : Lies w w.heap.size A (cells (nums l))) (hA : A = none → cap = 0) (hc : l.length ≤ 1000000) :
    Calls Tryz.prog 9 #[.slice A l.length cap] w (Overs l w) := by
  have HC := Lib.hid (clone_any (cap := cap) hl hA hc)
  clear hl hA
  go_enter Tryz.func9, Tryz.ntmps9
  go_wp2_with (go_at_call 44; go_must ((with_reducible refine HC.out.mono ?_); intro e w1 h; obtain ⟨v, rfl, hr, hb⟩ := h; obtain ⟨A1, c1, rfl, h1, h2, hl1, _⟩ := lies_own hr; have HL := Lib.hid hl1; have H1 := Lib.hid h1; have H2 := Lib.hid h2; have HB := Lib.hid hb; clear hl1 hr h1 h2 hb))
  go_ret
  exact ⟨w1.heap.size, rfl, HB.out.size, ⟨A1, c1, Whole.made _ _ _, HL.out.below (below_box w1 _) (Nat.le_refl _), H1.out, H2.out, by simp⟩, HB.out.trans ((below_box w1 _).mono HB.out.size)⟩
end Go.Proofs.YtebgmfjgapmpfaaGreatDoor

/- parse and Parse of an instruction's bytes. -/
namespace Go.Proofs.YtebgmfjgapmpfaaGreatDoor
open Go.RowKit
set_option linter.unusedVariables false
set_option maxRecDepth 100000

/-- What is kept of an instruction that was read. -/
def KeepI (p : Nat) (l : List UInt8) (i : I) (k lo : Nat) (x : I × Option Addr × Nat) (W : World) : Prop :=
  x.1 = i ∧ Sc W p l k ∧ Lies W W.heap.size x.2.1 (cells32 i.l) ∧ ∀ a, x.2.1 = some a → lo ≤ a.block
theorem KeepI.on {p : Nat} {l : List UInt8} {i : I} {k lo : Nat} {x : I × Option Addr × Nat} {W W' : World} {b : Nat} (h : KeepI p l i k lo x W) (hg : W.grownBy W' (some b)) (h1 : p < b) (h2 : b < lo) : KeepI p l i k lo x W' := by
  obtain ⟨h3, h4, h5, h6⟩ := h
  exact ⟨h3, h4.grown hg (by simp only [ne_eq, Option.some.injEq]; omega) (fun g e => by injection e with e; omega), h5.keep hg (fun a ha => by have := h6 a ha; omega), h6⟩
/-- What parse hands back. -/
def Parsed (i : I) (n : Nat) (w : World) (e : Ending) (w' : World) : Prop :=
  ∃ A c, e = .returned (.tuple #[insV i A c, .int .i64 n, .agg #[.int .i64 0, .int .i64 0]]) ∧ Lies w' w'.heap.size A (cells32 i.l) ∧ Below w.heap.size w w' ∧ ∀ a, A = some a → w.heap.size ≤ a.block
theorem parsed_of {i : I} {A : Option Addr} {c n m : Nat} {w W : World} (hn : n = m) (h : Lies W W.heap.size A (cells32 i.l)) (hb : Below w.heap.size w W) (hf : ∀ a, A = some a → w.heap.size + 3 ≤ a.block) : Parsed i n w (.returned (.tuple #[insV i A c, .int .i64 m, .agg #[.int .i64 0, .int .i64 0]])) W.drew :=
  ⟨A, c, by rw [hn], h, hb.drew, fun a ha => by have := hf a ha; omega⟩
/-- The world in which parse's results are written. -/
structure ParseEnd (i : I) (A : Option Addr) (c p : Nat) (l : List UInt8) (w w1 w2 W : World) (n : Nat) : Prop where
  sc : Sc W p l n
  lab : Lies W W.heap.size A (cells32 i.l) ∧ ∀ a, A = some a → w.heap.size + 3 ≤ a.block
  bel : Below w.heap.size w W
  val : W.cell? ⟨w2.heap.size, 0, none⟩ = some (.int .u8 i.op.toNat) ∧ W.cell? ⟨w2.heap.size, 1, none⟩ = some (.int .u64 i.a) ∧ W.cell? ⟨w2.heap.size, 2, none⟩ = some (.int .u64 i.b) ∧ W.cell? ⟨w2.heap.size, 3, none⟩ = some (.slice A i.l.length c)
  ptr : W.cell? ⟨w1.heap.size, 0, none⟩ = some (.pointer (some ⟨p, 0, none⟩))
  stop : W.cell? ⟨w2.heap.size + 1, 0, none⟩ = some (.int .i64 0) ∧ W.cell? ⟨w2.heap.size + 1, 1, none⟩ = some (.int .i64 0)
  res : W.cell? ⟨w.heap.size + 1, 0, none⟩ = some (.int .u8 0) ∧ W.cell? ⟨w.heap.size + 1, 1, none⟩ = some (.int .u64 0) ∧ W.cell? ⟨w.heap.size + 1, 2, none⟩ = some (.int .u64 0) ∧ W.cell? ⟨w.heap.size + 1, 3, none⟩ = some (.slice none 0 0)
  free : W.frozen? ⟨w.heap.size + 1, 0, none⟩ = false ∧ W.frozen? ⟨w.heap.size + 1, 1, none⟩ = false ∧ W.frozen? ⟨w.heap.size + 1, 2, none⟩ = false ∧ W.frozen? ⟨w.heap.size + 1, 3, none⟩ = false
  res6 : W.cell? ⟨w.heap.size + 1 + 1, 0, none⟩ = some (.int .i64 0) ∧ W.cell? ⟨w.heap.size + 1 + 1, 1, none⟩ = some (.int .i64 0)
  free6 : W.frozen? ⟨w.heap.size + 1 + 1, 0, none⟩ = false ∧ W.frozen? ⟨w.heap.size + 1 + 1, 1, none⟩ = false
  w4 : Whole W (w.heap.size + 1) 44 #[.int .u8 0, .int .u64 0, .int .u64 0, .slice none 0 0]
  w6 : Whole W (w.heap.size + 1 + 1) 32 #[.int .i64 0, .int .i64 0]
  n1 : ¬ w2.heap.size = w.heap.size
  n2 : ¬ w2.heap.size = w.heap.size + 1
  n3 : ¬ w2.heap.size + 1 = w.heap.size
theorem ParseEnd.of {i : I} {A : Option Addr} {c p : Nat} {l : List UInt8} {w w0 w1 w2 : World} {n : Nat} (h0 : w0.heap.size = w.heap.size + 3) (hb0 : Below w.heap.size w w0) (h4 : Whole w0 (w.heap.size + 1) 44 #[.int .u8 0, .int .u64 0, .int .u64 0, .slice none 0 0]) (h6 : Whole w0 (w.heap.size + 2) 32 #[.int .i64 0, .int .i64 0])
    (hb : Below w0.heap.size w0 w1) (hz1 : w0.heap.size ≤ w1.heap.size) (hp : w0.heap.size ≤ p ∧ p < w1.heap.size) (hg : (w1.alloc (.cells #[.pointer (some ⟨p, 0, none⟩)] 24)).grownBy w2 (some p)) (hk : Sc w2 p l n ∧ Lies w2 w2.heap.size A (cells32 i.l) ∧ ∀ a, A = some a → w1.heap.size + 6 ≤ a.block) :
    ParseEnd i A c p l w w1 w2 ((w2.alloc (.cells (insC i A c) 44)).alloc (.cells #[.int .i64 0, .int .i64 0] 32)) n := by
  have hz2 := hg.size
  rw [size_box] at hz2
  obtain ⟨k1, k2, k3⟩ := hk
  have w4 := ((((h4.below hb).alloc (.cells #[.pointer (some ⟨p, 0, none⟩)] 24)).grown hg (by simp only [ne_eq, Option.some.injEq]; omega)).alloc (.cells (insC i A c) 44)).alloc (.cells #[.int .i64 0, .int .i64 0] 32)
  have w6 := ((((h6.below hb).alloc (.cells #[.pointer (some ⟨p, 0, none⟩)] 24)).grown hg (by simp only [ne_eq, Option.some.injEq]; omega)).alloc (.cells (insC i A c) 44)).alloc (.cells #[.int .i64 0, .int .i64 0] 32)
  have w7 := (((Whole.made w1 24 #[.pointer (some ⟨p, 0, none⟩)]).grown hg (by simp only [ne_eq, Option.some.injEq]; omega)).alloc (.cells (insC i A c) 44)).alloc (.cells #[.int .i64 0, .int .i64 0] 32)
  have w8 := (Whole.made w2 44 (insC i A c)).alloc (.cells #[.int .i64 0, .int .i64 0] 32)
  have w9 := Whole.made (w2.alloc (.cells (insC i A c) 44)) 32 #[.int .i64 0, .int .i64 0]
  rw [size_box] at w9
  refine ⟨(k1.alloc _).alloc _, ⟨lies_box (lies_box k2 _) _, fun a ha => by have := k3 a ha; omega⟩, ?_, ⟨w8.cell 0, w8.cell 1, w8.cell 2, w8.cell 3⟩, w7.cell 0, ⟨w9.cell 0, w9.cell 1⟩, ⟨w4.cell 0, w4.cell 1, w4.cell 2, w4.cell 3⟩, ⟨w4.frozen 0, w4.frozen 1, w4.frozen 2, w4.frozen 3⟩, ⟨w6.cell 0, w6.cell 1⟩, ⟨w6.frozen 0, w6.frozen 1⟩, w4, w6, by omega, by omega, by omega⟩
  have b1 : Below w.heap.size w (w1.alloc (.cells #[.pointer (some ⟨p, 0, none⟩)] 24)) := (hb0.trans (hb.mono (by omega))).alloc (by omega) _
  have b2 : Below w.heap.size w w2 := Below.grown b1 hg (by rw [size_box]; omega) (fun g e => by injection e with e; omega)
  exact (b2.alloc (by omega) _).alloc (by rw [size_box]; omega) _
theorem ParseEnd.fin {i : I} {A : Option Addr} {c p : Nat} {l : List UInt8} {w w1 w2 W : World} {n : Nat} (h : ParseEnd i A c p l w w1 w2 W n) (W6 : World)
    (hW : W6 = (((((W.setCell ⟨w.heap.size + 1, 0, none⟩ (.int .u8 i.op.toNat)).setCell ⟨w.heap.size + 1, 1, none⟩ (.int .u64 i.a)).setCell ⟨w.heap.size + 1, 2, none⟩ (.int .u64 i.b)).setCell ⟨w.heap.size + 1, 3, none⟩ (.slice A i.l.length c)).setCell ⟨w.heap.size + 1 + 1, 0, none⟩ (.int .i64 0)).setCell ⟨w.heap.size + 1 + 1, 1, none⟩ (.int .i64 0)) :
    Whole W6 (w.heap.size + 1) 44 (insC i A c) ∧ Whole W6 (w.heap.size + 1 + 1) 32 #[.int .i64 0, .int .i64 0] ∧ Lies W6 W6.heap.size A (cells32 i.l) ∧ Below w.heap.size w W6 := by
  subst hW
  obtain ⟨p1, g1⟩ := put4 (u0 := .int .u8 i.op.toNat) (u1 := .int .u64 i.a) (u2 := .int .u64 i.b) (u3 := .slice A i.l.length c) h.w4
  obtain ⟨p2, g2⟩ := put2 (u0 := .int .i64 0) (u1 := .int .i64 0) (h.w6.grown g1 (by simp only [ne_eq, Option.some.injEq]; omega))
  have hz := g1.size
  have hzw := h.w4.lt
  refine ⟨p1.grown g2 (by simp only [ne_eq, Option.some.injEq]; omega), p2, (h.lab.1.keep g1 (fun a ha => by have := h.lab.2 a ha; omega)).keep g2 (fun a ha => by have := h.lab.2 a ha; omega), ?_⟩
  have b1 : Below w.heap.size w _ := Below.grown h.bel g1 (by omega) (fun g e => by injection e with e; omega)
  exact Below.grown b1 g2 (by omega) (fun g e => by injection e with e; omega)
end Go.Proofs.YtebgmfjgapmpfaaGreatDoor

/- The walk of ConstsReads. -/
namespace Go.Proofs.YtebgmfjgapmpfaaGreatDoor
open Go.RowKit
set_option linter.unusedVariables false
set_option maxRecDepth 100000

/-- Both readers are laid: the scanner at p, the reference's at q, the scanner's variable behind it. -/
structure LR (w : World) (p q : Nat) (ms : List UInt8) (M : Option Addr) (cm : Nat) (W : World) : Prop where
  bel : Below w.heap.size w W
  tb : TbP p W
  sc : Sc W p ms 0
  rd : Whole W q 28 #[.slice M ms.length cm, .int .i64 0, .int .i64 0, .int .i64 0]
  vr : Whole W (q + 1) 24 #[.pointer (some ⟨p, 0, none⟩)]
  lo : w.heap.size ≤ p
  pq : p < q
  qz : q + 2 ≤ W.heap.size
theorem LR.of {w w1 w2 : World} {p : Nat} {ms : List UInt8} {M : Option Addr} {cm : Nat} (hT : Tabs w1) (hb1 : Below w.heap.size w w1) (hb2 : Below w1.heap.size w1 w2) (hp : w1.heap.size ≤ p) (hs : Sc w2 p ms 0) :
    LR w p w2.heap.size ms M cm ((w2.alloc (.cells #[.slice M ms.length cm, .int .i64 0, .int .i64 0, .int .i64 0] 28)).alloc (.cells #[.pointer (some ⟨p, 0, none⟩)] 24)) := by
  have hv := Whole.made (w2.alloc (.cells #[.slice M ms.length cm, .int .i64 0, .int .i64 0, .int .i64 0] 28)) 24 #[.pointer (some ⟨p, 0, none⟩)]
  rw [size_box] at hv
  have hz := hb1.size
  have hz2 := hb2.size
  have hb3 : Below w2.heap.size w2 ((w2.alloc (.cells #[.slice M ms.length cm, .int .i64 0, .int .i64 0, .int .i64 0] 28)).alloc (.cells #[.pointer (some ⟨p, 0, none⟩)] 24)) := below_two w2 _ _
  exact ⟨hb1.trans ((hb2.mono hz).trans (hb3.mono (by omega))), ⟨w1, hT, hp, hb2.trans (hb3.mono hz2)⟩, (hs.alloc _).alloc _, (Whole.made w2 _ _).alloc _, hv, by omega, hs.lt, by simp⟩
/-- The reference's reader, once the program's has read. -/
theorem LR.ref {w : World} {p q : Nat} {ms : List UInt8} {M : Option Addr} {cm : Nat} {W W4 : World} (h : LR w p q ms M cm W) (hg : W.grownBy W4 (some p)) (hm : Lies w w.heap.size M (cells (nums ms))) (hc : ms.length ≤ cm) (hx : cm ≤ maxLen) (o o' : Obj) :
    Rs ((W4.alloc o).alloc o') q ms (.at 0) ∧ Below w.heap.size w ((W4.alloc o).alloc o') := by
  have h1 := h.pq
  have h2 := h.lo
  have hz := hg.size
  have h3 := h.qz
  have hb4 : Below w.heap.size w W4 := Below.grown h.bel hg h.bel.size (fun g e => by injection e with e; omega)
  have hz0 := hb4.size
  have hb5 : Below w.heap.size w ((W4.alloc o).alloc o') := hb4.trans ((below_two W4 o o').mono hz0)
  have hr := ((h.rd.grown hg (by simp only [ne_eq, Option.some.injEq]; omega)).alloc o).alloc o'
  exact ⟨⟨M, cm, 0, hr, (hm.below hb5 (Nat.le_refl _)).more (by omega), hc, hx, rfl, Nat.zero_le _⟩, hb5⟩

/-- At the law's end, of bytes that are no constant expression: the Stop at b6, the instruction at b5, the reference's reader at q. -/
structure EndE (w : World) (b5 b6 q : Nat) (c a : Int) (u0 u1 : Value) (W : World) : Prop where
  bel : Below w.heap.size w W
  x : Whole W b5 44 #[.int .u8 0, .int .u64 0, .int .u64 0, .slice none 0 0]
  s : Whole W b6 32 #[.int .i64 c, .int .i64 a]
  r : Whole W q 28 #[u0, u1, .int .i64 c, .int .i64 a]
theorem EndE.on {w : World} {b5 b6 q : Nat} {c a : Int} {u0 u1 : Value} {W W' : World} (h : EndE w b5 b6 q c a u0 u1 W) (hb : Below W.heap.size W W') : EndE w b5 b6 q c a u0 u1 W' :=
  ⟨h.bel.trans (hb.mono h.bel.size), h.x.below hb, h.s.below hb, h.r.below hb⟩
abbrev CellsE (b5 b6 q : Nat) (c a : Int) (W : World) : Prop :=
  (W.cell? ⟨b5, 0, none⟩ = some (.int .u8 0) ∧ W.cell? ⟨b5, 1, none⟩ = some (.int .u64 0) ∧ W.cell? ⟨b5, 2, none⟩ = some (.int .u64 0) ∧ W.cell? ⟨b5, 3, none⟩ = some (.slice none 0 0)) ∧
  (W.cell? ⟨b6, 0, none⟩ = some (.int .i64 c) ∧ W.cell? ⟨b6, 1, none⟩ = some (.int .i64 a)) ∧ W.cell? ⟨q, 2, none⟩ = some (.int .i64 c) ∧ W.cell? ⟨q, 3, none⟩ = some (.int .i64 a)
theorem EndE.cells {w : World} {b5 b6 q : Nat} {c a : Int} {u0 u1 : Value} {W : World} (h : EndE w b5 b6 q c a u0 u1 W) : EndE w b5 b6 q c a u0 u1 W ∧ CellsE b5 b6 q c a W :=
  ⟨h, ⟨h.x.cell 0, h.x.cell 1, h.x.cell 2, h.x.cell 3⟩, ⟨h.s.cell 0, h.s.cell 1⟩, h.r.cell 2, h.r.cell 3⟩
/-- .. of bytes that begin with one. -/
structure EndO (w : World) (b5 b6 b8 p q : Nat) (ms : List UInt8) (i : I) (A2 : Option Addr) (c2 : Nat) (A3 : Option Addr) (c3 k : Nat) (W : World) : Prop where
  bel : Below w.heap.size w W
  x : Whole W b5 44 (insC i A2 c2)
  s : Whole W b6 32 #[.int .i64 0, .int .i64 0]
  y : Whole W b8 44 (insC i A3 c3)
  v : Whole W (q + 1) 24 #[.pointer (some ⟨p, 0, none⟩)]
  sc : Sc W p ms k
  r : Rs W q ms (.at k)
  l2 : LiesL W A2 i.l
  l3 : LiesL W A3 i.l
theorem EndO.on {w : World} {b5 b6 b8 p q : Nat} {ms : List UInt8} {i : I} {A2 : Option Addr} {c2 : Nat} {A3 : Option Addr} {c3 k : Nat} {W W' : World} (h : EndO w b5 b6 b8 p q ms i A2 c2 A3 c3 k W) (hb : Below W.heap.size W W') : EndO w b5 b6 b8 p q ms i A2 c2 A3 c3 k W' :=
  ⟨h.bel.trans (hb.mono h.bel.size), h.x.below hb, h.s.below hb, h.y.below hb, h.v.below hb, h.sc.below hb, h.r.below hb, h.l2.below hb, h.l3.below hb⟩
abbrev CellsO (b5 b6 b8 p q : Nat) (i : I) (A2 : Option Addr) (c2 : Nat) (A3 : Option Addr) (c3 k : Nat) (W : World) : Prop :=
  (W.cell? ⟨b5, 0, none⟩ = some (.int .u8 i.op.toNat) ∧ W.cell? ⟨b5, 1, none⟩ = some (.int .u64 i.a) ∧ W.cell? ⟨b5, 2, none⟩ = some (.int .u64 i.b) ∧ W.cell? ⟨b5, 3, none⟩ = some (.slice A2 i.l.length c2)) ∧
  (W.cell? ⟨b8, 0, none⟩ = some (.int .u8 i.op.toNat) ∧ W.cell? ⟨b8, 1, none⟩ = some (.int .u64 i.a) ∧ W.cell? ⟨b8, 2, none⟩ = some (.int .u64 i.b) ∧ W.cell? ⟨b8, 3, none⟩ = some (.slice A3 i.l.length c3)) ∧
  W.cell? ⟨b6, 0, none⟩ = some (.int .i64 0) ∧ W.cell? ⟨q + 1, 0, none⟩ = some (.pointer (some ⟨p, 0, none⟩)) ∧ W.cell? ⟨q, 1, none⟩ = some (.int .i64 k)
theorem EndO.cells {w : World} {b5 b6 b8 p q : Nat} {ms : List UInt8} {i : I} {A2 : Option Addr} {c2 : Nat} {A3 : Option Addr} {c3 k : Nat} {W : World} (h : EndO w b5 b6 b8 p q ms i A2 c2 A3 c3 k W) : EndO w b5 b6 b8 p q ms i A2 c2 A3 c3 k W ∧ CellsO b5 b6 b8 p q i A2 c2 A3 c3 k W :=
  ⟨h, ⟨h.x.cell 0, h.x.cell 1, h.x.cell 2, h.x.cell 3⟩, ⟨h.y.cell 0, h.y.cell 1, h.y.cell 2, h.y.cell 3⟩, h.s.cell 0, h.v.cell 0, at_at h.r⟩
theorem opR_nz {l : List UInt8} {k : Nat} {c a : Int} (h : opR l k = .err c a) : c ≠ 0 := by
  unfold opR at h
  cases hr : byteR l k with
  | err e b => rw [hr, Res.bind_err] at h; injection h with h1 h2; have := byteR_nz hr; omega
  | ok d p =>
    rw [hr, Res.bind_ok] at h
    by_cases hd : checkR d.toNat = 0
    · rw [if_pos hd] at h; cases h
    · rw [if_neg hd] at h; injection h with h1 h2; omega
theorem blockR_nz {l : List UInt8} {k : Nat} {c a : Int} (h : blockR l k = .err c a) : c ≠ 0 := by
  unfold blockR at h
  cases hr : byteR l k with
  | err e b => rw [hr, Res.bind_err] at h; injection h with h1 h2; have := byteR_nz hr; omega
  | ok d p =>
    rw [hr, Res.bind_ok] at h
    by_cases hd : blockZ d.toNat = 0
    · rw [if_pos hd] at h; cases h
    · rw [if_neg hd] at h; injection h with h1 h2; omega
theorem idxK_nz {l : List UInt8} {c a : Int} : ∀ (n q : Nat) (acc : List Int), idxK l n q acc = .err c a → c ≠ 0
  | 0, q, acc, h => by cases h
  | n + 1, q, acc, h => by
    unfold idxK at h
    cases hr : indexR l q with
    | err e b => rw [hr, Res.bind_err] at h; injection h with h1 h2; have := indexR_nz hr; omega
    | ok x p => rw [hr, Res.bind_ok] at h; exact idxK_nz n p _ h
theorem labelsR_nz {l : List UInt8} {k : Nat} {c a : Int} (h : labelsR l k = .err c a) : c ≠ 0 := by
  unfold labelsR at h
  cases hr : countR l k with
  | err e b =>
    rw [hr, Res.bind_err] at h
    injection h with h1 h2
    unfold countR atMostR at hr
    cases hi : indexR l k with
    | err e2 b2 => rw [hi, Res.bind_err] at hr; injection hr with h3 h4; have := indexR_nz hi; omega
    | ok v p =>
      rw [hi, Res.bind_ok] at hr
      by_cases hv : v ≤ 10000
      · rw [if_pos hv] at hr; cases hr
      · rw [if_neg hv] at hr; injection hr with h3 h4; omega
  | ok v p => rw [hr, Res.bind_ok] at h; exact idxK_nz _ _ _ h
theorem bind_nz {α β : Type} {r : Res α} {f : α → Nat → Res β} {c a : Int} (h : r.bind f = .err c a) (h1 : ∀ c a, r = .err c a → c ≠ 0) (h2 : ∀ v k c a, f v k = .err c a → c ≠ 0) : c ≠ 0 := by
  cases r with
  | err e b => rw [Res.bind_err] at h; injection h with g1 g2; subst g1; exact h1 _ _ rfl
  | ok v k => rw [Res.bind_ok] at h; exact h2 v k c a h
theorem bodyR_nz {l : List UInt8} {m : Nat} {o : UInt8} {k : Nat} {c a : Int} (h : bodyR m o l k = .err c a) : c ≠ 0 := by
  have no : ∀ {i : I} {k : Nat} {c a : Int}, Res.ok i k = .err c a → c ≠ 0 := fun h => by cases h
  unfold bodyR at h
  repeat' split at h
  · cases h
  · exact bind_nz h (fun _ _ => blockR_nz) (fun _ _ _ _ h => no h)
  · exact bind_nz h (fun _ _ => labelsR_nz) (fun _ _ _ _ h => bind_nz h (fun _ _ => indexR_nz) (fun _ _ _ _ h => no h))
  · exact bind_nz h (fun _ _ => indexR_nz) (fun _ _ _ _ h => bind_nz h (fun _ _ => noughtR_nz) (fun _ _ _ _ h => no h))
  · exact bind_nz h (fun _ _ => indexR_nz) (fun _ _ _ _ h => bind_nz h (fun _ _ => indexR_nz) (fun _ _ _ _ h => no h))
  · exact bind_nz h (fun _ _ => noughtR_nz) (fun _ _ _ _ h => no h)
  · exact bind_nz h (fun _ _ => intR_nz) (fun _ _ _ _ h => no h)
  · exact bind_nz h (fun _ _ => intR_nz) (fun _ _ _ _ h => no h)
  · exact bind_nz h (fun _ _ => indexR_nz) (fun _ _ _ _ h => no h)
theorem readR_err {l : List UInt8} {k : Nat} {c a : Int} (h : readR l k = .err c a) : ¬ c = 0 := by
  unfold readR at h
  refine bind_nz h (fun c a h => ?_) (fun i k1 c a h => ?_)
  · unfold getR at h
    exact bind_nz h (fun _ _ => opR_nz) (fun _ _ _ _ => bodyR_nz)
  · by_cases hz : crightZ i = 0
    · rw [if_pos hz] at h
      refine bind_nz h (fun _ _ => byteR_nz) (fun d k2 c a h => ?_)
      by_cases hd : d = 11
      · rw [if_pos hd] at h; cases h
      · rw [if_neg hd] at h; injection h with h1 h2; omega
    · rw [if_neg hz] at h; injection h with h1 h2; omega
theorem readR_len {l : List UInt8} {k : Nat} {i : I} {k' : Nat} (h : readR l k = .ok i k') : i.l.length ≤ 10000 := by
  unfold readR at h
  cases hr : getR l k with
  | err c a => rw [hr, Res.bind_err] at h; cases h
  | ok j p =>
    rw [hr, Res.bind_ok] at h
    by_cases hz : crightZ j = 0
    · rw [if_pos hz] at h
      cases hb : byteR l p with
      | err c a => rw [hb, Res.bind_err] at h; cases h
      | ok d p2 =>
        rw [hb, Res.bind_ok] at h
        by_cases hd : d = 11
        · rw [if_pos hd] at h
          injection h with h1 h2
          subst h1
          exact (getR_ok hr).2.1
        · rw [if_neg hd] at h; cases h
    · rw [if_neg hz] at h; cases h
theorem zero_same (w : World) : Calls Tryz.prog 52 #[.agg #[.int .u8 0, .int .u64 0, .int .u64 0, .slice none 0 0], .agg #[.int .u8 0, .int .u64 0, .int .u64 0, .slice none 0 0]] w (BoolPost true w) := by
  have := refSame_any (w := w) (A := none) (B := none) (c := 0) (d := 0) (i := ⟨0, 0, 0, []⟩) (k := ⟨0, 0, 0, []⟩) (fun j v hv => by simp [cells32] at hv) (fun j v hv => by simp [cells32] at hv) (by simp) (by simp)
  rw [show sameZ ⟨0, 0, 0, []⟩ ⟨0, 0, 0, []⟩ = true by unfold sameZ; simp] at this
  exact this
theorem EndE.of {w : World} {p q : Nat} {ms : List UInt8} {M : Option Addr} {cm : Nat} {W W4 w6 : World} {c a : Int} (h : LR w p q ms M cm W) (hg : W.grownBy W4 (some p))
    (hb5 : Below w.heap.size w ((W4.alloc (.cells #[.int .u8 0, .int .u64 0, .int .u64 0, .slice none 0 0] 44)).alloc (.cells #[.int .i64 c, .int .i64 a] 32)))
    (hr : Rs w6 q ms (.bad c a)) (hg6 : ((W4.alloc (.cells #[.int .u8 0, .int .u64 0, .int .u64 0, .slice none 0 0] 44)).alloc (.cells #[.int .i64 c, .int .i64 a] 32)).grownBy w6 (some q)) (o : Obj) :
    ∃ u0 u1, EndE w W4.heap.size (W4.heap.size + 1) q c a u0 u1 (w6.alloc o) := by
  have h1 := h.pq
  have h2 := h.lo
  have h3 := h.qz
  have hz := hg.size
  have hz5 := hb5.size
  obtain ⟨A, cap, j, hw, _, _, _, _⟩ := hr.badly
  have hs := Whole.made (W4.alloc (.cells #[.int .u8 0, .int .u64 0, .int .u64 0, .slice none 0 0] 44)) 32 #[.int .i64 c, .int .i64 a]
  rw [size_box] at hs
  have hb6 : Below w.heap.size w w6 := Below.grown hb5 hg6 hz5 (fun g e => by injection e with e; omega)
  exact ⟨_, _, hb6.alloc hb6.size _, (((Whole.made W4 _ _).alloc _).grown hg6 (by simp only [ne_eq, Option.some.injEq]; omega)).alloc _, (hs.grown hg6 (by simp only [ne_eq, Option.some.injEq]; omega)).alloc _, hw.alloc _⟩
theorem EndO.of {w : World} {p q : Nat} {ms : List UInt8} {M : Option Addr} {cm : Nat} {W W4 w6 : World} {i : I} {A2 A3 : Option Addr} {c2 c3 k : Nat} (h : LR w p q ms M cm W) (hg : W.grownBy W4 (some p))
    (hb5 : Below w.heap.size w ((W4.alloc (.cells (insC i A2 c2) 44)).alloc (.cells #[.int .i64 0, .int .i64 0] 32)))
    (hs4 : Sc W4 p ms k) (hl2 : Lies W4 W4.heap.size A2 (cells32 i.l)) (hf2 : ∀ a, A2 = some a → W.heap.size + 5 ≤ a.block)
    (hr : Rs w6 q ms (.at k)) (hl3 : Lies w6 w6.heap.size A3 (cells32 i.l)) (hg6 : ((W4.alloc (.cells (insC i A2 c2) 44)).alloc (.cells #[.int .i64 0, .int .i64 0] 32)).grownBy w6 (some q)) :
    EndO w W4.heap.size (W4.heap.size + 1) w6.heap.size p q ms i A2 c2 A3 c3 k (w6.alloc (.cells (insC i A3 c3) 44)) := by
  have h1 := h.pq
  have h2 := h.lo
  have h3 := h.qz
  have hz := hg.size
  have hz5 := hb5.size
  have hs := Whole.made (W4.alloc (.cells (insC i A2 c2) 44)) 32 #[.int .i64 0, .int .i64 0]
  rw [size_box] at hs
  have hb6 : Below w.heap.size w w6 := Below.grown hb5 hg6 hz5 (fun g e => by injection e with e; omega)
  have hl2' := (lies_box (lies_box hl2 (.cells (insC i A2 c2) 44)) (.cells #[.int .i64 0, .int .i64 0] 32)).keep hg6 (fun a ha => by have := hf2 a ha; omega)
  exact ⟨hb6.alloc hb6.size _, (((Whole.made W4 _ _).alloc _).grown hg6 (by simp only [ne_eq, Option.some.injEq]; omega)).alloc _, (hs.grown hg6 (by simp only [ne_eq, Option.some.injEq]; omega)).alloc _, Whole.made _ _ _,
    ((((h.vr.grown hg (by simp only [ne_eq, Option.some.injEq]; omega)).alloc _).alloc _).grown hg6 (by simp only [ne_eq, Option.some.injEq]; omega)).alloc _,
    (((hs4.alloc _).alloc _).grown hg6 (by simp only [ne_eq, Option.some.injEq]; omega) (fun g e => by injection e with e; omega)).alloc _, hr.alloc _, lies_box hl2' _, lies_box hl3 _⟩

theorem LR.ref1 {w : World} {p q : Nat} {ms : List UInt8} {M : Option Addr} {cm : Nat} {W W4 : World} (h : LR w p q ms M cm W) (hg : W.grownBy W4 (some p)) (hm : Lies w w.heap.size M (cells (nums ms))) (hc : ms.length ≤ cm) (hx : cm ≤ maxLen) (o : Obj) :
    Rs (W4.alloc o) q ms (.at 0) ∧ Below w.heap.size w (W4.alloc o) := by
  have h1 := h.pq
  have h2 := h.lo
  have hz := hg.size
  have h3 := h.qz
  have hb4 : Below w.heap.size w W4 := Below.grown h.bel hg h.bel.size (fun g e => by injection e with e; omega)
  have hz0 := hb4.size
  have hb5 : Below w.heap.size w (W4.alloc o) := hb4.trans ((below_box W4 o).mono hz0)
  have hr := (h.rd.grown hg (by simp only [ne_eq, Option.some.injEq]; omega)).alloc o
  exact ⟨⟨M, cm, 0, hr, (hm.below hb5 (Nat.le_refl _)).more (by omega), hc, hx, rfl, Nat.zero_le _⟩, hb5⟩
end Go.Proofs.YtebgmfjgapmpfaaGreatDoor

/- awake; the laws' closures; two lists side by side. -/
namespace Go.Proofs.YtebgmfjgapmpfaaGreatDoor
open Go.RowKit
set_option linter.unusedVariables false
set_option maxRecDepth 100000

/-- The page's example: an i32 that may change, of 5. -/
def gEg : Gl := ⟨127, true, cEg⟩
theorem gEg_zero : rG gEg = 0 := by
  unfold rG
  rw [if_neg (by show ¬ valueZ 127 ≠ 0; decide +kernel)]
  exact cEg_zero
theorem gEg_put : gputL gEg = [127, 1, 65, 5, 11] := by
  unfold gputL cputL
  show encG 127 true ++ (putL cEg ++ [11]) = _
  rw [cEg_put]
  rfl
theorem gawake_any (w : World) (hT : Tabs w) : Calls Tryz.prog 8 #[] w fun e w' => e = .returned (.bool true) ∧ Below w.heap.size w w' := by
  have hp := put_gl gEg none 0 w cEg_ok hT (by decide)
  obtain ⟨l, hl⟩ : ∃ l : List UInt8, l = [127, 1, 65, 5, 11] := ⟨_, rfl⟩
  have HP := Lib.hid (show Calls Tryz.prog 43 #[.agg #[.int .u8 127, .bool true, .int .u8 65, .int .u64 5, .int .u64 0, .slice none 0 0]] w fun e w' => ∃ v, e = .returned (.tuple #[v, .int .i64 0]) ∧ Row w' w.heap.size v l ∧ Below w.heap.size w w' from hp.mono fun e w' ⟨v, h1, h2, h3⟩ => ⟨v, by rw [gEg_zero] at h1; exact h1, by rw [if_pos gEg_zero, gEg_put] at h2; rw [hl]; exact h2, h3⟩)
  have hcmp : ((S l).toList == [127, 1, 65, 5, 11]) = true := by rw [S_toList, hl]; rfl
  clear hl
  clear hp hT
  go_enter Tryz.func8, Tryz.ntmps8
  go_wp2_with (go_at_call 43; go_must ((with_reducible refine HP.out.mono ?_); intro e w1 h; obtain ⟨v, rfl, hr, hb⟩ := h; obtain ⟨A, c, rfl, hcv⟩ := hr.str; have hcv2 := hcv 9 Tryz.underlying9; have HB := Lib.hid hb; clear hb hr hcv))
  go_ret
  exact ⟨rfl, HB.out⟩

theorem cfG2 (cap : Array Value) (w : World) : (callFunc 19 cap).run Tryz.prog w = .ok (.enter 19 cap) w := by kernel_rfl
theorem cfG3 (cap : Array Value) (w : World) : (callFunc 11 cap).run Tryz.prog w = .ok (.enter 11 cap) w := by kernel_rfl
theorem closG3 {w : World} {p b : Nat} {l : List UInt8} {k : Nat} (hb : Whole w b 24 #[.pointer (some ⟨p, 0, none⟩)]) (hs : Sc w p l k) (hT : TbP p w) :
    Calls Tryz.prog 11 #[.pointer (some ⟨b, 0, none⟩)] w (GotAllG p l (allR l k) w) := by
  have c0 := hb.cell 0
  simp only [List.getElem?_toArray, List.getElem?_cons_zero] at c0
  have hG := getall_gl hs hT
  clear hb hs hT
  obtain ⟨R, hR⟩ : ∃ R, R = allR l k := ⟨_, rfl⟩
  rw [← hR] at hG ⊢
  clear hR
  cases R with
  | err c a =>
    have HG := Lib.hid (show Calls Tryz.prog 12 #[.pointer (some ⟨p, 0, none⟩)] w (fun e w' => e = .panicked (stopP c a) ∧ w.grownBy w' (some p)) from hG)
    clear hG
    go_enter Tryz.func11, Tryz.ntmps11
    go_wp2_with (go_at_call 12; go_must ((with_reducible refine HG.out.mono ?_); rintro e w1 ⟨rfl, hg⟩; have HG1 := Lib.hid hg; clear hg))
    exact ⟨rfl, rfl, HG1.out⟩
  | ok xs k2 =>
    have HG := Lib.hid (show Calls Tryz.prog 12 #[.pointer (some ⟨p, 0, none⟩)] w (fun e w' => ∃ v rows, e = .returned v ∧ RowG w' w.heap.size v rows ∧ rows.map (·.1) = xs ∧ Sc w' p l k2 ∧ w.grownBy w' (some p)) from hG)
    clear hG
    go_enter Tryz.func11, Tryz.ntmps11
    go_wp2_with (go_at_call 12; go_must ((with_reducible refine HG.out.mono ?_); intro e w1 hq; obtain ⟨v, rows, rfl, hr, hm, hs, hg⟩ := hq; have HR := Lib.hid hr; have HS := Lib.hid hs; have HG1 := Lib.hid hg; have HM := Lib.hid hm; clear hr hs hg hm))
    go_ret
    exact ⟨_, rows, rfl, HR.out, HM.out, HS.out, HG1.out⟩
theorem closG2 {w : World} {p b : Nat} {l : List UInt8} {k : Nat} (hb : Whole w b 24 #[.pointer (some ⟨p, 0, none⟩)]) (hs : Sc w p l k) (hT : TbP p w) :
    Calls Tryz.prog 19 #[.pointer (some ⟨b, 0, none⟩)] w (GotAllG p l (allR l k) w) := by
  have c0 := hb.cell 0
  simp only [List.getElem?_toArray, List.getElem?_cons_zero] at c0
  have hG := getall_gl hs hT
  clear hb hs hT
  obtain ⟨R, hR⟩ : ∃ R, R = allR l k := ⟨_, rfl⟩
  rw [← hR] at hG ⊢
  clear hR
  cases R with
  | err c a =>
    have HG := Lib.hid (show Calls Tryz.prog 12 #[.pointer (some ⟨p, 0, none⟩)] w (fun e w' => e = .panicked (stopP c a) ∧ w.grownBy w' (some p)) from hG)
    clear hG
    go_enter Tryz.func19, Tryz.ntmps19
    go_wp2_with (go_at_call 12; go_must ((with_reducible refine HG.out.mono ?_); rintro e w1 ⟨rfl, hg⟩; have HG1 := Lib.hid hg; clear hg))
    exact ⟨rfl, rfl, HG1.out⟩
  | ok xs k2 =>
    have HG := Lib.hid (show Calls Tryz.prog 12 #[.pointer (some ⟨p, 0, none⟩)] w (fun e w' => ∃ v rows, e = .returned v ∧ RowG w' w.heap.size v rows ∧ rows.map (·.1) = xs ∧ Sc w' p l k2 ∧ w.grownBy w' (some p)) from hG)
    clear hG
    go_enter Tryz.func19, Tryz.ntmps19
    go_wp2_with (go_at_call 12; go_must ((with_reducible refine HG.out.mono ?_); intro e w1 hq; obtain ⟨v, rows, rfl, hr, hm, hs, hg⟩ := hq; have HR := Lib.hid hr; have HS := Lib.hid hs; have HG1 := Lib.hid hg; have HM := Lib.hid hm; clear hr hs hg hm))
    go_ret
    exact ⟨_, rows, rfl, HR.out, HM.out, HS.out, HG1.out⟩

/-- The six cells of a global, by its parts. -/
abbrev SixL (w : World) (b o : Nat) (g : Gl) (a : Option Addr) (c : Nat) : Prop := w.cell? ⟨b, o, none⟩ = some (.int .u8 g.t.toNat) ∧ w.cell? ⟨b, o + 1, none⟩ = some (.bool g.m) ∧ w.cell? ⟨b, o + 2, none⟩ = some (.int .u8 g.i.op.toNat) ∧ w.cell? ⟨b, o + 3, none⟩ = some (.int .u64 g.i.a) ∧ w.cell? ⟨b, o + 4, none⟩ = some (.int .u64 g.i.b) ∧ w.cell? ⟨b, o + 5, none⟩ = some (.slice a g.i.l.length c)
/-- One of each of two lists, as a walk reads them; both lists. -/
abbrev TwoG (w : World) (A A2 : Option Addr) (l l2 : List SlotG) (b off b2 off2 k : Nat) (g : Gl) (a1 a2 : Option Addr) (c1 c2 : Nat) (W : World) : Prop :=
  (Below w.heap.size w W ∧ Gs W A l ∧ Gs W A2 l2) ∧ SixL W b (off + k * 6) g a1 c1 ∧ SixL W b2 (off2 + k * 6) g a2 c2
section
variable {w W W' : World} {A A2 : Option Addr} {l l2 : List SlotG} {b off b2 off2 k : Nat} {g : Gl} {a1 a2 : Option Addr} {c1 c2 : Nat}
theorem twoG_of (h1 : Below w.heap.size w W) (h2 : Gs W A l) (h3 : Gs W A2 l2) (hA : A = some ⟨b, off, none⟩) (hA2 : A2 = some ⟨b2, off2, none⟩) (hx : l[k]? = some (g, a1, c1)) (hy : l2[k]? = some (g, a2, c2)) : TwoG w A A2 l l2 b off b2 off2 k g a1 a2 c1 c2 W := by
  obtain ⟨d1, o1, e1, _, p⟩ := h2.six hx
  obtain ⟨d2, o2, e2, _, q⟩ := h3.six hy
  rw [hA] at e1
  rw [hA2] at e2
  injection e1 with e1
  injection e2 with e2
  injection e1 with a1 a2
  injection e2 with a3 a4
  subst a1; subst a2; subst a3; subst a4
  exact ⟨⟨h1, h2, h3⟩, p, q⟩
theorem twoG_on (h : TwoG w A A2 l l2 b off b2 off2 k g a1 a2 c1 c2 W) (hA : A = some ⟨b, off, none⟩) (hA2 : A2 = some ⟨b2, off2, none⟩) (hx : l[k]? = some (g, a1, c1)) (hy : l2[k]? = some (g, a2, c2)) (hb : Below W.heap.size W W') : TwoG w A A2 l l2 b off b2 off2 k g a1 a2 c1 c2 W' :=
  twoG_of (h.1.1.trans (hb.mono h.1.1.size)) (h.1.2.1.below hb) (h.1.2.2.below hb) hA hA2 hx hy
/-- Both have one there, and these are alike. -/
theorem both_at (hm : l.map (·.1) = l2.map (·.1)) (hk : k < l.length) : ∃ g a1 a2 c1 c2, l[k]? = some (g, a1, c1) ∧ l2[k]? = some (g, a2, c2) := by
  obtain ⟨⟨g, a1, c1⟩, hx⟩ : ∃ x, l[k]? = some x := ⟨_, List.getElem?_eq_getElem hk⟩
  have hk2 : k < l2.length := by have := congrArg List.length hm; rw [List.length_map, List.length_map] at this; omega
  obtain ⟨⟨g2, a2, c2⟩, hy⟩ : ∃ y, l2[k]? = some y := ⟨_, List.getElem?_eq_getElem hk2⟩
  have e := congrArg (fun l => l[k]?) hm
  simp only [List.getElem?_map, hx, hy, Option.map_some, Option.some.injEq] at e
  subst e
  exact ⟨g, a1, a2, c1, c2, hx, hy⟩
end
end Go.Proofs.YtebgmfjgapmpfaaGreatDoor

/- The walk of GlobalsReads. -/
namespace Go.Proofs.YtebgmfjgapmpfaaGreatDoor
open Go.RowKit
set_option linter.unusedVariables false
set_option maxRecDepth 100000

theorem valueGR_err {w : World} {p q : Nat} {ms : List UInt8} {M : Option Addr} {cm : Nat} {W : World} {c a : Int} (h : LR w p q ms M cm W) (hc : ¬ c = 0) (hr : allR ms 0 = .err c a) :
    Calls Tryz.prog 10 #[.func (.func 11) #[] #[.pointer (some ⟨q + 1, 0, none⟩)]] W fun e w' => e = .returned (.tuple #[.slice none 0 0, .agg #[.int .i64 c, .int .i64 a]]) ∧ W.grownBy w' (some p) := by
  have h1 := h.pq
  have h2 := h.qz
  exact valueGsE_any hc (cfG3 _) (by omega) (fun W' hW hz => by
    have := closG3 (h.vr.below hW) (h.sc.below hW) (h.tb.below hW (by omega))
    rw [hr] at this
    exact this)
/-- What is kept of the list that was read. -/
def KeepG (base N : Nat) (xs : List Gl) (v : Option Addr × Nat × Nat) (W : World) : Prop := v.2.1 = N ∧ ∃ rows, RowG W base (.slice v.1 N v.2.2) rows ∧ rows.map (·.1) = xs
theorem valueGR_ok {w : World} {p q : Nat} {ms : List UInt8} {M : Option Addr} {cm : Nat} {W : World} {xs : List Gl} {k N : Nat} (h : LR w p q ms M cm W) (hr : allR ms 0 = .ok xs k) (hN : xs.length = N) :
    Calls Tryz.prog 10 #[.func (.func 11) #[] #[.pointer (some ⟨q + 1, 0, none⟩)]] W fun e w' => ∃ v : Option Addr × Nat × Nat, e = .returned (.tuple #[.slice v.1 v.2.1 v.2.2, .agg #[.int .i64 0, .int .i64 0]]) ∧ KeepG (W.heap.size + 4) N xs v w' ∧ W.grownBy w' (some p) := by
  have h1 := h.pq
  have h2 := h.qz
  refine valueGs_ok (cfG3 _) (by omega) (fun v W1 W2 b g1 g2 hx hg => ?_) (fun W' hW hz => ?_)
  · obtain ⟨e1, rows, e2, e3⟩ := hx
    exact ⟨e1, rows, e2.past hg (by omega), e3⟩
  · have := closG3 (h.vr.below hW) (h.sc.below hW) (h.tb.below hW (by omega))
    rw [hr] at this
    refine this.mono ?_
    rintro e w' ⟨v, rows, rfl, hr, hm, hs, hg⟩
    obtain ⟨A, c, rfl⟩ := hr.slice
    have hl : rows.length = N := by rw [← hN, ← hm, List.length_map]
    rw [hl] at hr ⊢
    exact ⟨(A, N, c), rfl, ⟨rfl, rows, hr.mono hz, hm⟩, hg⟩
theorem allR_err {l : List UInt8} {k : Nat} {c a : Int} (h : allR l k = .err c a) : ¬ c = 0 := by
  have hg : ∀ (n q : Nat) (acc : List Gl) (c a : Int), gsK l n q acc = .err c a → c ≠ 0 := by
    intro n
    induction n with
    | zero => intro q acc c a h; cases h
    | succ n ih =>
      intro q acc c a h
      unfold gsK at h
      refine bind_nz h (fun c a h => ?_) (fun x k2 c a h => ih _ _ c a h)
      unfold gR at h
      refine bind_nz h (fun c a h => ?_) (fun t k1 c a h => bind_nz h (fun c a h => readR_err h) (fun i k2 c a h => by cases h))
      unfold globR at h
      refine bind_nz h (fun c a h => ?_) (fun t k1 c a h => bind_nz h (fun c a h => ?_) (fun i k2 c a h => by cases h))
      · unfold valR at h
        refine bind_nz h (fun _ _ => byteR_nz) (fun d k2 c a h => ?_)
        split at h
        · cases h
        · injection h with h1 h2; omega
      · unfold flagR at h
        refine bind_nz h (fun _ _ => byteR_nz) (fun d k2 c a h => ?_)
        split at h
        · cases h
        · injection h with h1 h2; omega
  unfold allR at h
  refine bind_nz h (fun c a h => ?_) (fun n k1 c a h => bind_nz h (fun c a h => hg _ _ _ c a h) (fun xs k2 c a h => ?_))
  · unfold countR atMostR at h
    refine bind_nz h (fun _ _ => indexR_nz) (fun v k2 c a h => ?_)
    split at h
    · cases h
    · injection h with h1 h2; omega
  · split at h
    · injection h with h1 h2; omega
    · cases h
/-- What was read has no labels. -/
theorem allR_nil {l : List UInt8} {k : Nat} {xs : List Gl} {k' : Nat} (h : allR l k = .ok xs k') : ∀ x ∈ xs, x.i.l = [] := by
  have hg : ∀ (n q : Nat) (acc xs : List Gl) (k' : Nat), (∀ x ∈ acc, x.i.l = []) → gsK l n q acc = .ok xs k' → ∀ x ∈ xs, x.i.l = [] := by
    intro n
    induction n with
    | zero => intro q acc xs k' ha h; injection h with h1 h2; subst h1; exact ha
    | succ n ih =>
      intro q acc xs k' ha h
      unfold gsK at h
      cases hx : gR l q with
      | err c a => rw [hx, Res.bind_err] at h; cases h
      | ok x q2 =>
        rw [hx, Res.bind_ok] at h
        refine ih _ _ xs k' (fun y hy => ?_) h
        rcases List.mem_append.1 hy with hy | hy
        · exact ha y hy
        · rw [List.mem_singleton] at hy
          subst hy
          unfold gR at hx
          cases ht : globR l q with
          | err c a => rw [ht, Res.bind_err] at hx; cases hx
          | ok t k1 =>
            rw [ht, Res.bind_ok] at hx
            cases hi : readR l k1 with
            | err c a => rw [hi, Res.bind_err] at hx; cases hx
            | ok i k2 =>
              rw [hi, Res.bind_ok] at hx
              injection hx with h1 h2
              subst h1
              exact readR_nil hi
  unfold allR at h
  cases hc : countR l k with
  | err c a => rw [hc, Res.bind_err] at h; cases h
  | ok n k1 =>
    rw [hc, Res.bind_ok] at h
    cases hs : gsK l n.toNat k1 [] with
    | err c a => rw [hs, Res.bind_err] at h; cases h
    | ok ys k2 =>
      rw [hs, Res.bind_ok] at h
      split at h
      · cases h
      · injection h with h1 h2
        subst h1
        exact hg _ _ _ _ _ (fun x hx => by cases hx) hs

theorem allR_len {l : List UInt8} {k : Nat} {xs : List Gl} {k' : Nat} (h : allR l k = .ok xs k') : xs.length ≤ 10000 := by
  have hg : ∀ (n q : Nat) (acc xs : List Gl) (k' : Nat), gsK l n q acc = .ok xs k' → xs.length = acc.length + n := by
    intro n
    induction n with
    | zero => intro q acc xs k' h; injection h with h1 h2; subst h1; rfl
    | succ n ih =>
      intro q acc xs k' h
      unfold gsK at h
      cases hx : gR l q with
      | err c a => rw [hx, Res.bind_err] at h; cases h
      | ok x q2 =>
        rw [hx, Res.bind_ok] at h
        have := ih _ _ xs k' h
        rw [List.length_append, List.length_singleton] at this
        omega
  unfold allR at h
  cases hc : countR l k with
  | err c a => rw [hc, Res.bind_err] at h; cases h
  | ok n k1 =>
    obtain ⟨v0, v1⟩ := countR_ok hc
    rw [hc, Res.bind_ok] at h
    cases hs : gsK l n.toNat k1 [] with
    | err c a => rw [hs, Res.bind_err] at h; cases h
    | ok ys k2 =>
      rw [hs, Res.bind_ok] at h
      split at h
      · cases h
      · injection h with h1 h2
        subst h1
        have := hg _ _ _ _ _ hs
        simp at this
        omega
set_option maxHeartbeats 8000000 in
theorem lawGR {w : World} {M : Option Addr} {cm : Nat} {ms : List UInt8} (hT : Tabs w) (hm : Lies w w.heap.size M (cells (nums ms))) (hM : M = none → cm = 0) (hc : ms.length ≤ cm) (hx : cm ≤ maxLen) :
    Calls Tryz.prog 3 #[.slice M ms.length cm] w (BoolPost true w) := by
  have nm : (ms.length : Int) ≤ 9223372036854775807 := by unfold maxLen at hx; omega
  have HAW := Lib.hid (gawake_any w hT)
  by_cases g1 : 600 < ms.length
  · have t1 : decide (600 < (ms.length : Int)) = true := decide_eq_true (by omega)
    clear hm hT hx
    go_enter Tryz.func3, Tryz.ntmps3
    go_wp2_with (go_at_call 8; go_must ((with_reducible refine HAW.out.mono ?_); rintro e w1 ⟨rfl, hb⟩; have HB1 := Lib.hid hb; clear hb))
    go_ret
    exact ⟨rfl, HB1.out⟩
  have t1 : decide (600 < (ms.length : Int)) = false := decide_eq_false (by omega)
  have hmf : ∀ (fn : Fn) (first cap : Array Value) (w : World), (Instr.makeFunc fn first cap).run Tryz.prog w = .ok (.func fn first cap) w := fun _ _ _ _ => rfl
  have HO := Lib.hid (fun W (hb : Below w.heap.size w W) => over_any (cap := cm) ((hm.below hb (Nat.le_refl _)).more hb.size) hM (by omega))
  have HT := Lib.hid hT
  have HM := Lib.hid hm
  have HC := Lib.hid hc
  have HX := Lib.hid hx
  clear hT hm hM hc hx g1
  cases hr : allR ms 0 with
  | err c a =>
    have HRF := Lib.hid (fun W q (h : Rs W q ms (.at 0)) => show Calls Tryz.prog 13 #[.pointer (some ⟨q, 0, none⟩)] W fun e w' => e = .returned (.slice none 0 0) ∧ Rs w' q ms (.bad c a) ∧ W.grownBy w' (some q) from by have := rgetall_gl h; rw [hr] at this; exact this)
    have hne : ¬ c = 0 := allR_err hr
    have dw : (c != 0) = true := by simpa using hne
    have HNE := Lib.hid hne
    have HRR := Lib.hid hr
    clear hr hne
    go_enter Tryz.func3, Tryz.ntmps3
    go_wp2_with (first
      | (go_at_call 8; go_must ((with_reducible refine HAW.out.mono ?_); rintro e w1 ⟨rfl, hb⟩; have HB1 := Lib.hid hb; clear hb))
      | (go_at_call 9; go_must ((with_reducible refine (HO.out _ HB1.out).mono ?_); intro e w2 hq; obtain ⟨p, rfl, hp, hs, hb⟩ := hq; have H3 := Lib.hid (LR.of (M := M) (cm := cm) (HT.out.below HB1.out) HB1.out hb hp hs); clear hp hs hb))
      | (go_at_call 10; go_must ((with_reducible refine (valueGR_err H3.out HNE.out HRR.out).mono ?_); rintro e w4 ⟨rfl, hg⟩; have H4 := Lib.hid hg; have H5 := Lib.hid (H3.out.ref1 hg HM.out HC.out HX.out (.cells #[.int .i64 c, .int .i64 a] 32)); clear hg))
      | (go_at_call 13; go_must ((with_reducible refine (HRF.out _ _ H5.out.1).mono ?_); rintro e w6 ⟨rfl, hs, hg⟩; have hst := (Whole.made w4 32 #[.int .i64 c, .int .i64 a]).grown hg (by have := H3.out.pq; have := H3.out.qz; have := H4.out.size; simp only [ne_eq, Option.some.injEq]; omega); have s0 := hst.cell 0; have s1 := hst.cell 1; simp only [List.getElem?_toArray, List.getElem?_cons_zero, List.getElem?_cons_succ] at s0 s1; have r2 := hs.cells.1; have r3 : w6.cell? ⟨w2.heap.size, 3, none⟩ = some (.int .i64 a) := (by obtain ⟨_, _, _, hw, _⟩ := hs; exact hw.cell 3); rw [show (RSt.bad c a).why = c from rfl] at r2; have hb6 : Below w.heap.size w w6 := Below.grown H5.out.2 hg H5.out.2.size (fun g e => by have := H3.out.pq; have := H3.out.lo; injection e with e; omega); have HB6 := Lib.hid hb6; clear hs hg hst hb6)))
    go_quiet (fail)
    go_wp2
    go_ret
    exact ⟨rfl, below_drewN HB6.out _⟩
  | ok xs k =>
    obtain ⟨N, hN⟩ : ∃ N, N = xs.length := ⟨_, rfl⟩
    have HRF := Lib.hid (fun W q (h : Rs W q ms (.at 0)) => show Calls Tryz.prog 13 #[.pointer (some ⟨q, 0, none⟩)] W fun e w' => ∃ A c rows, e = .returned (.slice A N c) ∧ RowG w' W.heap.size (.slice A N c) rows ∧ rows.map (·.1) = xs ∧ Rs w' q ms (.at k) ∧ W.grownBy w' (some q) from by
      have := rgetall_gl h
      rw [hr] at this
      refine this.mono ?_
      rintro e w' ⟨v, rows, rfl, h1, h2, h3, h4⟩
      obtain ⟨A, c, rfl⟩ := h1.slice
      have hl : rows.length = N := by rw [hN, ← h2, List.length_map]
      rw [hl] at h1 ⊢
      exact ⟨A, c, rows, rfl, h1, h2, h3, h4⟩)
    have HNL := Lib.hid (allR_nil hr)
    have HSM := Lib.hid (fun W (g : Gl) (A2 A3 : Option Addr) (c2 c3 : Nat) (h : g.i.l = []) => rsame_gl (w := W) (x := g) (A := A2) (B := A3) (c := c2) (d := c3) h)
    have HRR := Lib.hid hr
    have HN := Lib.hid hN
    have n63 : N ≤ 10000 := by rw [hN]; exact allR_len hr
    clear hr hN
    go_enter Tryz.func3, Tryz.ntmps3
    go_wp2_with (first
      | (go_at_call 8; go_must ((with_reducible refine HAW.out.mono ?_); rintro e w1 ⟨rfl, hb⟩; have HB1 := Lib.hid hb; clear hb))
      | (go_at_call 9; go_must ((with_reducible refine (HO.out _ HB1.out).mono ?_); intro e w2 hq; obtain ⟨p, rfl, hp, hs, hb⟩ := hq; have H3 := Lib.hid (LR.of (M := M) (cm := cm) (HT.out.below HB1.out) HB1.out hb hp hs); clear hp hs hb))
      | (go_at_call 10; go_must ((with_reducible refine (valueGR_ok H3.out HRR.out HN.out.symm).mono ?_); rintro e w4 ⟨⟨A2, n2, c2⟩, rfl, ⟨hn, rows, hr, hm⟩, hg⟩; obtain rfl : n2 = N := hn; have H4 := Lib.hid hg; have HR4 := Lib.hid hr; have HM4 := Lib.hid hm; have H5 := Lib.hid (H3.out.ref1 hg HM.out HC.out HX.out (.cells #[.int .i64 0, .int .i64 0] 32)); clear hg hr hm))
      | (go_at_call 13; go_must ((with_reducible refine (HRF.out _ _ H5.out.1).mono ?_); rintro e w6 ⟨A3, c3, rows3, rfl, hr3, hm3, hs, hg⟩; have hst := (Whole.made w4 32 #[.int .i64 0, .int .i64 0]).grown hg (by have := H3.out.pq; have := H3.out.qz; have := H4.out.size; simp only [ne_eq, Option.some.injEq]; omega); have s0 := hst.cell 0; simp only [List.getElem?_toArray, List.getElem?_cons_zero] at s0; have x2 := why_at hs; have HB6 := Lib.hid (show Below w.heap.size w w6 from Below.grown H5.out.2 hg H5.out.2.size (fun g e => by have := H3.out.pq; have := H3.out.lo; injection e with e; omega)); have HI := Lib.hid ((HR4.out.alloc (.cells #[.int .i64 0, .int .i64 0] 32)).past hg (by have := H3.out.qz; omega)).gs; have HJ := Lib.hid hr3.gs; have HM3 := Lib.hid hm3; clear hs hg hst hr3 hm3)))
    go_loopw [8] (fun i wr => ∃ j : Nat, j ≤ n2 ∧ i = .int .i64 j ∧ Below w.heap.size w wr ∧ Gs wr A2 rows ∧ Gs wr A3 rows3) (fun i _ => n2 - (intOf i).toNat)
    case atStart => exact ⟨0, Nat.zero_le _, rfl, HB6.out, HI.out, HJ.out⟩
    case round =>
      obtain ⟨j, hj, rfl, hb, hi, hjj⟩ := hrel
      by_cases hlt : j < n2
      · have hlen : rows.length = n2 := by rw [HN.out, ← HM4.out, List.length_map]
        obtain ⟨g, a1, a2, d1, d2, hx, hy⟩ := both_at (HM4.out.trans HM3.out.symm) (by omega : j < rows.length)
        have hgn : g.i.l = [] := HNL.out g (by rw [← HM4.out]; exact List.mem_map.2 ⟨_, List.mem_of_getElem? hx, rfl⟩)
        obtain ⟨b, off, hA, _⟩ := hi.six hx
        obtain ⟨b2, off2, hA2, _⟩ := hjj.six hy
        have hS0 := twoG_of hb hi hjj hA hA2 hx hy
        have HS0 := Lib.hid (twoG_on hS0 hA hA2 hx hy (Below.refl _ _).drew)
        have HON := Lib.hid (fun W W' (h : TwoG w A2 A3 rows rows3 b off b2 off2 j g a1 a2 d1 d2 W) (hb : Below W.heap.size W W') => twoG_on h hA hA2 hx hy hb)
        have HSg := Lib.hid (fun W => HSM.out W g a1 a2 d1 d2 hgn)
        subst hA; subst hA2
        clear hx hy hb hi hjj hS0 hgn hlen
        go_upto_region 15 with fail
        refine wp_region_noPanic ?_
        refine wp_region_held_drew (S := fun W => TwoG w (some ⟨b, off, none⟩) (some ⟨b2, off2, none⟩) rows rows3 b off b2 off2 j g a1 a2 d1 d2 W) (by kernel_rfl) HS0.out (fun hHeld => ?_)
        (refine heldTake (i := 0) (oi := { dst := some 68, op := Op.move (Operand.tmp 5), type := 29, pos := "law.go:59", after := #[], guard := none }) (v := ?_) rfl (by kernel_rfl) (by kernel_rfl) (by kernel_rfl) (by assumption) ?_ ?_; rotate_left; focus (refine .inl ⟨by kernel_rfl, ?_⟩; intro w hSw; (try dsimp only at hSw); go_simp; (try with_reducible rfl)); (try simp only [Act.put, List.setIfInBounds_toArray, List.set_cons_zero, List.set_cons_succ]))
        (refine heldTake (i := 1) (oi := { dst := some 69, op := Op.move (Operand.tmp 8), type := 3, pos := "law.go:59", after := #[], guard := none }) (v := ?_) rfl (by kernel_rfl) (by kernel_rfl) (by kernel_rfl) (by assumption) ?_ ?_; rotate_left; focus (refine .inl ⟨by kernel_rfl, ?_⟩; intro w hSw; (try dsimp only at hSw); go_simp; (try with_reducible rfl)); (try simp only [Act.put, List.setIfInBounds_toArray, List.set_cons_zero, List.set_cons_succ]))
        (refine heldTake (i := 2) (oi := { dst := some 70, op := Op.indexAddr 29 (Operand.tmp 68) (Operand.tmp 69), type := 0, pos := "law.go:59", after := #[{ on := 0, ground := Ground.data }, { on := 1, ground := Ground.data }], guard := none }) (v := ?_) rfl (by kernel_rfl) (by kernel_rfl) (by kernel_rfl) (by assumption) ?_ ?_; rotate_left; focus (refine .inl ⟨by kernel_rfl, ?_⟩; intro w hSw; (try dsimp only at hSw); go_simp; (try with_reducible rfl)); (try simp only [Act.put, List.setIfInBounds_toArray, List.set_cons_zero, List.set_cons_succ]))
        (refine heldTake (i := 3) (oi := { dst := some 71, op := Op.load 46 (Operand.tmp 70), type := 46, pos := "law.go:59", after := #[{ on := 2, ground := Ground.data }], guard := none }) (v := ?_) rfl (by kernel_rfl) (by kernel_rfl) (by kernel_rfl) (by assumption) ?_ ?_; rotate_left; focus (refine .inl ⟨by kernel_rfl, ?_⟩; intro w hSw; (try dsimp only at hSw); go_simp; (try with_reducible rfl)); (try simp only [Act.put, List.setIfInBounds_toArray, List.set_cons_zero, List.set_cons_succ]))
        (refine heldTake (i := 4) (oi := { dst := some 72, op := Op.move (Operand.tmp 7), type := 29, pos := "law.go:59", after := #[], guard := none }) (v := ?_) rfl (by kernel_rfl) (by kernel_rfl) (by kernel_rfl) (by assumption) ?_ ?_; rotate_left; focus (refine .inl ⟨by kernel_rfl, ?_⟩; intro w hSw; (try dsimp only at hSw); go_simp; (try with_reducible rfl)); (try simp only [Act.put, List.setIfInBounds_toArray, List.set_cons_zero, List.set_cons_succ]))
        (refine heldTake (i := 5) (oi := { dst := some 73, op := Op.move (Operand.tmp 8), type := 3, pos := "law.go:59", after := #[], guard := none }) (v := ?_) rfl (by kernel_rfl) (by kernel_rfl) (by kernel_rfl) (by assumption) ?_ ?_; rotate_left; focus (refine .inl ⟨by kernel_rfl, ?_⟩; intro w hSw; (try dsimp only at hSw); go_simp; (try with_reducible rfl)); (try simp only [Act.put, List.setIfInBounds_toArray, List.set_cons_zero, List.set_cons_succ]))
        (refine heldTake (i := 6) (oi := { dst := some 74, op := Op.indexAddr 29 (Operand.tmp 72) (Operand.tmp 73), type := 0, pos := "law.go:59", after := #[{ on := 4, ground := Ground.data }, { on := 5, ground := Ground.data }], guard := none }) (v := ?_) rfl (by kernel_rfl) (by kernel_rfl) (by kernel_rfl) (by assumption) ?_ ?_; rotate_left; focus (refine .inl ⟨by kernel_rfl, ?_⟩; intro w hSw; (try dsimp only at hSw); go_simp; (try with_reducible rfl)); (try simp only [Act.put, List.setIfInBounds_toArray, List.set_cons_zero, List.set_cons_succ]))
        (refine heldTake (i := 7) (oi := { dst := some 75, op := Op.load 46 (Operand.tmp 74), type := 46, pos := "law.go:59", after := #[{ on := 6, ground := Ground.data }], guard := none }) (v := ?_) rfl (by kernel_rfl) (by kernel_rfl) (by kernel_rfl) (by assumption) ?_ ?_; rotate_left; focus (refine .inl ⟨by kernel_rfl, ?_⟩; intro w hSw; (try dsimp only at hSw); go_simp; (try with_reducible rfl)); (try simp only [Act.put, List.setIfInBounds_toArray, List.set_cons_zero, List.set_cons_succ]))
        refine wpAnyH_ready (rs := [8]) (by kernel_rfl) (by simp) ?_
        refine AllReadyH.cons (o := { dst := some 76, op := Op.call { callee := Callee.value (Operand.func 14), args := #[Operand.tmp 71, Operand.tmp 75], argTypes := #[46, 46] }, type := 4, pos := "law.go:59", after := #[{ on := 3, ground := Ground.data }, { on := 7, ground := Ground.data }], guard := none }) rfl (fun K hK => ?_) AllReadyH.nil
        go_simp
        (go_at_call 14; (with_reducible refine (HSg.out _).mono ?_); rintro e w11 ⟨rfl, hb⟩; have hk11 := HON.out _ _ hHeld hb; clear hb)
        refine hK.out _ _ hk11 (fun hHeld8 => ?_)
        clear hK K hHeld
        (try simp only [Act.put, List.setIfInBounds_toArray, List.set_cons_zero, List.set_cons_succ])
        (refine heldTake (i := 9) (oi := { dst := some 77, op := Op.unOp UnOp.not 4 (Operand.tmp 76), type := 4, pos := "law.go:59", after := #[{ on := 8, ground := Ground.data }], guard := none }) (v := ?_) rfl (by kernel_rfl) (by kernel_rfl) (by kernel_rfl) (by assumption) ?_ ?_; rotate_left; focus (refine .inl ⟨by kernel_rfl, ?_⟩; intro w hSw; (try dsimp only at hSw); go_simp; (try with_reducible rfl)); (try simp only [Act.put, List.setIfInBounds_toArray, List.set_cons_zero, List.set_cons_succ]))
        refine wpAnyH_done (by kernel_rfl) ?_ _
        refine NoPanic.normal ?_
        have hLast := hHeld8
        clear hHeld8
        obtain ⟨⟨hb3, hi3, hj3⟩, _⟩ := hLast
        have HB3 := Lib.hid hb3
        have HI3 := Lib.hid hi3
        have HJ3 := Lib.hid hj3
        clear hb3 hi3 hj3
        go_wp2
        go_roundw
        case rel => exact ⟨j + 1, by omega, by go_num, HB3.out, HI3.out, HJ3.out⟩
        case measure => simp [intOf]; omega
      · obtain rfl : j = n2 := by omega
        have HB3 := Lib.hid hb
        clear hb hi hjj
        go_wp2
        go_ret
        exact ⟨rfl, HB3.out⟩
end Go.Proofs.YtebgmfjgapmpfaaGreatDoor

/- What the rows list of the tables of package ops, as the walks want it; a world that holds them. -/
namespace Go.Proofs.YtebgmfjgapmpfaaGreatDoor
set_option linter.unusedVariables false
open Go.Shelf Go.Lib

theorem laidOut : laidOutB Tryz.prog = true := by kernel_rfl
theorem own : ownKnob Tryz.prog.godebug = none := by kernel_rfl
/-- What the rows list. -/
def listed : List (String × DataW Unit) := [("creel/ops.controlNames", Rows.laid_creel_ops_controlNames), ("creel/ops.memoryNames", Rows.laid_creel_ops_memoryNames), ("creel/ops.testNames", Rows.laid_creel_ops_testNames), ("creel/ops.numberNames", Rows.laid_creel_ops_numberNames), ("creel/ops.convertNames", Rows.laid_creel_ops_convertNames), ("creel/ops.accesses", Rows.laid_creel_ops_accesses)]
theorem listed_plain (W : World) : laidMetH Tryz.prog listed W = laidMet Tryz.prog listed W := Go.MakeChecks.laidMetH_plain _ _ _ (by kernel_rfl)

theorem cInt : Tryz.prog.cellsOf 3 = 1 := by kernel_rfl
theorem cBool : Tryz.prog.cellsOf 4 = 1 := by kernel_rfl
theorem cByte : Tryz.prog.cellsOf 5 = 1 := by kernel_rfl
theorem cStr : Tryz.prog.cellsOf 9 = 1 := by kernel_rfl
theorem cAcc : Tryz.prog.cellsOf 201 = 4 := by kernel_rfl

/-- A list cut into pieces of n. -/
theorem pieces {α : Type} (n : Nat) (g : α → List Value) : ∀ (l : List α) (L : List Value), L.length = l.length * n → (∀ k a, l[k]? = some a → (L.drop (k * n)).take n = g a) → L = l.flatMap g
  | [], L, hl, _ => List.eq_nil_of_length_eq_zero (by simpa using hl)
  | x :: r, L, hl, h => by
    have h0 := h 0 x rfl
    rw [Nat.zero_mul, List.drop_zero] at h0
    have hr := pieces n g r (L.drop n) (by rw [List.length_drop, hl, List.length_cons, Nat.add_mul]; omega) (fun k a hk => by
      have := h (k + 1) a hk
      rw [List.drop_drop, ← this]
      congr 2
      rw [Nat.add_mul]
      omega)
    rw [List.flatMap_cons, ← hr, ← h0, List.take_append_drop]

theorem map_flat {α : Type} (f : α → Value) : ∀ l : List α, l.map f = l.flatMap fun a => [f a]
  | [] => rfl
  | x :: r => by rw [List.map_cons, List.flatMap_cons, map_flat f r]; rfl
section
variable {H : Type} {enc : TypeId × Value → H} {w : World} {base : Nat} {sp : Nat → Bool} {held : Bool} {fuel : Nat}
theorem strs_of {t : TypeId} {n : Nat} {cs : Array Value} {l : List (List UInt8)} {p : List MemPlace} (ht : Tryz.prog.underlying t = some (.array n 9)) (hc : Tryz.prog.cellsOf t = n) (hn : l.length = n)
    (h : DataW.trod enc Tryz.prog w base sp held fuel t cs.toList = some (.agg (l.map fun s => .lit (.string s)), p)) : cs = strs l := by
  obtain ⟨_, _, _, _, hl, _, _⟩ := DataW.trod_array ht h
  apply Array.toList_inj.1
  have e : (strs l).toList = l.flatMap fun s => [.string (S s)] := by
    show l.map _ = _
    exact map_flat _ l
  rw [e]
  refine pieces 1 _ l cs.toList (by omega) (fun k a hk => ?_)
  obtain ⟨hk', rfl⟩ := List.getElem?_eq_some_iff.1 hk
  obtain ⟨f, d, q, h1, h2⟩ := array_elem ht h k (by omega)
  rw [cStr] at h2
  obtain ⟨s, hs, he, _⟩ := DataW.trod_string Tryz.underlying9 h2
  rw [hs]
  rw [List.getElem?_map, hk] at h1
  simp only [Option.map_some, Option.some.injEq] at h1
  rw [Prod.mk.injEq] at he
  rw [← h1] at he
  have e2 : l[k] = s.data.toList := by simpa using he.1
  rw [e2, S_of]
set_option maxRecDepth 100000 in
/-- A part of the table of accesses. -/
theorem quad_of {cs : List Value} {a : AccR} {p : List MemPlace}
    (h : DataW.trod enc Tryz.prog w base sp held fuel 201 cs = some (.agg [.lit (.int .i64 a.n), .lit (.int .u8 a.t), .lit (.bool a.wr), .lit (.bool a.sg)], p)) : cs = [.int .i64 a.n, .int .u8 a.t, .bool a.wr, .bool a.sg] := by
  obtain ⟨xs, m, rfl, hx, hl, hxl, hall⟩ := DataW.trod_struct Tryz.underlying201 h
  rw [cAcc] at hl
  have h0 : DataW.trod enc Tryz.prog w base sp held m 3 ((cs.drop 0).take (Tryz.prog.cellsOf 3)) = xs[0]? := hall 0 _ rfl
  have h1 : DataW.trod enc Tryz.prog w base sp held m 5 ((cs.drop 1).take (Tryz.prog.cellsOf 5)) = xs[1]? := hall 1 _ rfl
  have h2 : DataW.trod enc Tryz.prog w base sp held m 4 ((cs.drop 2).take (Tryz.prog.cellsOf 4)) = xs[2]? := hall 2 _ rfl
  have h3 : DataW.trod enc Tryz.prog w base sp held m 4 ((cs.drop 3).take (Tryz.prog.cellsOf 4)) = xs[3]? := hall 3 _ rfl
  rw [cInt] at h0
  rw [cByte] at h1
  rw [cBool] at h2 h3
  match xs, hxl, cs, hl with
  | [x0, x1, x2, x3], _, [u0, u1, u2, u3], _ =>
    simp only [List.map_cons, List.map_nil, Prod.mk.injEq, DataW.agg.injEq, List.cons.injEq, and_true] at hx
    obtain ⟨⟨e0, e1, e2, e3⟩, _⟩ := hx
    simp only [List.drop_zero, List.drop_succ_cons, List.getElem?_cons_zero, List.getElem?_cons_succ, List.take_succ_cons, List.take_zero] at h0 h1 h2 h3
    obtain ⟨z0, y0, rfl, _⟩ := DataW.trod_int Tryz.underlying3 h0
    obtain ⟨z1, y1, rfl, _⟩ := DataW.trod_int Tryz.underlying5 h1
    obtain ⟨z2, y2, rfl⟩ := DataW.trod_bool Tryz.underlying4 h2
    obtain ⟨z3, y3, rfl⟩ := DataW.trod_bool Tryz.underlying4 h3
    have e0' : (a.n : Int) = z0 := by simpa using e0
    have e1' : (a.t : Int) = z1 := by simpa using e1
    have e2' : a.wr = z2 := by simpa using e2
    have e3' : a.sg = z3 := by simpa using e3
    rw [e0', e1', e2', e3']
    have y0' : u0 = .int .i64 z0 := by simpa using y0
    have y1' : u1 = .int .u8 z1 := by simpa using y1
    have y2' : u2 = .bool z2 := by simpa using y2
    have y3' : u3 = .bool z3 := by simpa using y3
    rw [y0', y1', y2', y3']
theorem acc_of {t : TypeId} {n : Nat} {cs : Array Value} {l : List AccR} {p : List MemPlace} (ht : Tryz.prog.underlying t = some (.array n 201)) (hc : Tryz.prog.cellsOf t = n * 4) (hn : l.length = n)
    (h : DataW.trod enc Tryz.prog w base sp held fuel t cs.toList = some (.agg (l.map fun a => .agg [.lit (.int .i64 a.n), .lit (.int .u8 a.t), .lit (.bool a.wr), .lit (.bool a.sg)]), p)) : cs = accCells l := by
  obtain ⟨_, _, _, _, hl, _, _⟩ := DataW.trod_array ht h
  apply Array.toList_inj.1
  show cs.toList = l.flatMap _
  refine pieces 4 _ l cs.toList (by omega) (fun k a hk => ?_)
  obtain ⟨hk', rfl⟩ := List.getElem?_eq_some_iff.1 hk
  obtain ⟨f, d, q, h1, h2⟩ := array_elem ht h k (by omega)
  rw [cAcc] at h2
  rw [List.getElem?_map, hk] at h1
  simp only [Option.map_some, Option.some.injEq] at h1
  subst h1
  exact quad_of h2
end
theorem heap_of {W : World} {x : String} {g : Nat} {cs : Array Value} (hg : Tryz.prog.globalNamed x = some g) (hv : W.var? Tryz.prog x = some cs) : ∃ t fr, W.heap[g]? = some (.cells cs t fr) := by
  simp only [World.var?, hg, Option.bind_some] at hv
  split at hv
  · rename_i c t fr hb
    cases hv
    exact ⟨t, fr, hb⟩
  · cases hv
theorem n0 : Tryz.prog.globalNamed "creel/ops.controlNames" = some 0 := by kernel_rfl
theorem y0 : (Tryz.prog.globals[0]?).map (·.type) = some 208 := by kernel_rfl
theorem d0 : (Rows.laid_creel_ops_controlNames : DataW Unit) = .agg (tab0.map fun s => .lit (.string s)) := by kernel_rfl
theorem t0 {W : World} (h : laidMet Tryz.prog listed W) : ∃ t fr, W.heap[0]? = some (.cells (strs tab0) t fr) := by
  obtain ⟨g, t, cs, fuel, p, hg, hty, hvar, hd⟩ := Lib.laidMet.reads h (show ("creel/ops.controlNames", Rows.laid_creel_ops_controlNames) ∈ listed from .head _)
  obtain rfl := Option.some.inj (n0.symm.trans hg)
  obtain rfl := Option.some.inj (y0.symm.trans hty)
  rw [d0] at hd
  obtain rfl := strs_of Tryz.underlying208 (by kernel_rfl) (by kernel_rfl) hd
  exact heap_of n0 hvar
theorem n1 : Tryz.prog.globalNamed "creel/ops.memoryNames" = some 1 := by kernel_rfl
theorem y1 : (Tryz.prog.globals[1]?).map (·.type) = some 209 := by kernel_rfl
theorem d1 : (Rows.laid_creel_ops_memoryNames : DataW Unit) = .agg (tab1.map fun s => .lit (.string s)) := by kernel_rfl
theorem t1 {W : World} (h : laidMet Tryz.prog listed W) : ∃ t fr, W.heap[1]? = some (.cells (strs tab1) t fr) := by
  obtain ⟨g, t, cs, fuel, p, hg, hty, hvar, hd⟩ := Lib.laidMet.reads h (show ("creel/ops.memoryNames", Rows.laid_creel_ops_memoryNames) ∈ listed from .tail _ (.head _))
  obtain rfl := Option.some.inj (n1.symm.trans hg)
  obtain rfl := Option.some.inj (y1.symm.trans hty)
  rw [d1] at hd
  obtain rfl := strs_of Tryz.underlying209 (by kernel_rfl) (by kernel_rfl) hd
  exact heap_of n1 hvar
theorem n2 : Tryz.prog.globalNamed "creel/ops.testNames" = some 2 := by kernel_rfl
theorem y2 : (Tryz.prog.globals[2]?).map (·.type) = some 210 := by kernel_rfl
theorem d2 : (Rows.laid_creel_ops_testNames : DataW Unit) = .agg (tab2.map fun s => .lit (.string s)) := by kernel_rfl
theorem t2 {W : World} (h : laidMet Tryz.prog listed W) : ∃ t fr, W.heap[2]? = some (.cells (strs tab2) t fr) := by
  obtain ⟨g, t, cs, fuel, p, hg, hty, hvar, hd⟩ := Lib.laidMet.reads h (show ("creel/ops.testNames", Rows.laid_creel_ops_testNames) ∈ listed from .tail _ (.tail _ (.head _)))
  obtain rfl := Option.some.inj (n2.symm.trans hg)
  obtain rfl := Option.some.inj (y2.symm.trans hty)
  rw [d2] at hd
  obtain rfl := strs_of Tryz.underlying210 (by kernel_rfl) (by kernel_rfl) hd
  exact heap_of n2 hvar
theorem n3 : Tryz.prog.globalNamed "creel/ops.numberNames" = some 3 := by kernel_rfl
theorem y3 : (Tryz.prog.globals[3]?).map (·.type) = some 211 := by kernel_rfl
theorem d3 : (Rows.laid_creel_ops_numberNames : DataW Unit) = .agg (tab3.map fun s => .lit (.string s)) := by kernel_rfl
theorem t3 {W : World} (h : laidMet Tryz.prog listed W) : ∃ t fr, W.heap[3]? = some (.cells (strs tab3) t fr) := by
  obtain ⟨g, t, cs, fuel, p, hg, hty, hvar, hd⟩ := Lib.laidMet.reads h (show ("creel/ops.numberNames", Rows.laid_creel_ops_numberNames) ∈ listed from .tail _ (.tail _ (.tail _ (.head _))))
  obtain rfl := Option.some.inj (n3.symm.trans hg)
  obtain rfl := Option.some.inj (y3.symm.trans hty)
  rw [d3] at hd
  obtain rfl := strs_of Tryz.underlying211 (by kernel_rfl) (by kernel_rfl) hd
  exact heap_of n3 hvar
theorem n4 : Tryz.prog.globalNamed "creel/ops.convertNames" = some 4 := by kernel_rfl
theorem y4 : (Tryz.prog.globals[4]?).map (·.type) = some 212 := by kernel_rfl
theorem d4 : (Rows.laid_creel_ops_convertNames : DataW Unit) = .agg (tab4.map fun s => .lit (.string s)) := by kernel_rfl
theorem t4 {W : World} (h : laidMet Tryz.prog listed W) : ∃ t fr, W.heap[4]? = some (.cells (strs tab4) t fr) := by
  obtain ⟨g, t, cs, fuel, p, hg, hty, hvar, hd⟩ := Lib.laidMet.reads h (show ("creel/ops.convertNames", Rows.laid_creel_ops_convertNames) ∈ listed from .tail _ (.tail _ (.tail _ (.tail _ (.head _)))))
  obtain rfl := Option.some.inj (n4.symm.trans hg)
  obtain rfl := Option.some.inj (y4.symm.trans hty)
  rw [d4] at hd
  obtain rfl := strs_of Tryz.underlying212 (by kernel_rfl) (by kernel_rfl) hd
  exact heap_of n4 hvar
theorem n5 : Tryz.prog.globalNamed "creel/ops.accesses" = some 5 := by kernel_rfl
theorem y5 : (Tryz.prog.globals[5]?).map (·.type) = some 216 := by kernel_rfl
theorem d5 : (Rows.laid_creel_ops_accesses : DataW Unit) = .agg (tabA.map fun a => .agg [.lit (.int .i64 a.n), .lit (.int .u8 a.t), .lit (.bool a.wr), .lit (.bool a.sg)]) := by kernel_rfl
theorem t5 {W : World} (h : laidMet Tryz.prog listed W) : ∃ t fr, W.heap[5]? = some (.cells (accCells tabA) t fr) := by
  obtain ⟨g, t, cs, fuel, p, hg, hty, hvar, hd⟩ := Lib.laidMet.reads h (show ("creel/ops.accesses", Rows.laid_creel_ops_accesses) ∈ listed from .tail _ (.tail _ (.tail _ (.tail _ (.tail _ (.head _))))))
  obtain rfl := Option.some.inj (n5.symm.trans hg)
  obtain rfl := Option.some.inj (y5.symm.trans hty)
  rw [d5] at hd
  obtain rfl := acc_of Tryz.underlying216 (by kernel_rfl) (by kernel_rfl) hd
  exact heap_of n5 hvar
theorem tabs_of {W : World} (h : laidMetH Tryz.prog listed W) : Tabs W := by
  rw [listed_plain] at h
  exact ⟨t0 h, t1 h, t2 h, t3 h, t4 h, t5 h⟩

/-- The settled world, the tables laid. -/
noncomputable def laidWorld (os : Os) : World :=
  let w0 := World.holding Tryz.prog os ⟨#[], #[], []⟩
  let put (h : Array Obj) (g : Nat) (cs : Array Value) : Array Obj := h.modify g fun
    | .cells _ t frozen => .cells cs t frozen
    | o => o
  let h0 := put w0.heap 0 (strs tab0)
  let h1 := put h0 1 (strs tab1)
  let h2 := put h1 2 (strs tab2)
  let h3 := put h2 3 (strs tab3)
  let h4 := put h3 4 (strs tab4)
  { w0 with heap := put h4 5 (accCells tabA) }
theorem laidWorld_met (os : Os) (args : Array Value) : laidMetH Tryz.prog listed ((laidWorld os).forCall (fun _ _ => 0) ⟨#[], args, []⟩).memory := by
  rw [listed_plain]
  exact (LaidIn.of_run (l := listed) [0, 1, 2, 3, 4, 5] 8 (by kernel_rfl) (by kernel_rfl) (by kernel_rfl) (by kernel_rfl)).met
end Go.Proofs.YtebgmfjgapmpfaaGreatDoor

/- An instruction by value, its labels, a slice of bytes: opened. -/
namespace Go.Proofs.YtebgmfjgapmpfaaGreatDoor
open Go.ChangeShapes Go.WideShapes Go.ChangeAt Go.RowKit Go.Joins
set_option linter.unusedVariables false
set_option maxRecDepth 100000

theorem cellsB : Tryz.prog.cellsOf 5 = 1 := by kernel_rfl
theorem cells4 : Tryz.prog.cellsOf 97 = 1 := by kernel_rfl
section
variable {H : Type} {enc : TypeId × Value → H} {W : World} {sp : Nat → Bool}
theorem ints_lie {k : IntKind} {a : Addr} {len : Nat} {zs : List Int} (hle : len ≤ zs.length) (hcell : ∀ i, i < zs.length → W.cell? (a.add i) = some (.int k (zs.getD i 0))) :
    ∀ j v, ((zs.take len).map (Value.int k))[j]? = some v → ∃ b off, some a = some (⟨b, off, none⟩ : Addr) ∧ b < W.heap.size ∧ W.cell? ⟨b, off + j, none⟩ = some v := by
  intro i v hv
  have hi : i < len := by
    have := (List.getElem?_eq_some_iff.1 hv).1
    rw [List.length_map, List.length_take] at this
    omega
  obtain ⟨b, off, spot⟩ := a
  have hsp : spot = none := by
    have h0 := hcell 0 (by omega)
    simpa [Addr.add] using World.cell?_spot h0
  subst hsp
  have hc := hcell i (by omega)
  rw [Go.WideShapes.add_plain] at hc
  refine ⟨b, off, rfl, block_lt_of_cell hc, ?_⟩
  rw [hc, ← hv, List.getElem?_map, List.getElem?_take, if_pos hi, List.getElem?_eq_getElem (by omega : i < zs.length)]
  simp [List.getD, List.getElem?_eq_getElem (by omega : i < zs.length)]
theorem open_labels {n : Nat} {v : Value} {y : DataW H × List MemPlace} (h : DataW.trod enc Tryz.prog W 0 sp true n 42 [v] = some y) :
    ∃ A c l, v = .slice A l.length c ∧ LiesL W A l ∧ (∀ d ∈ l, 0 ≤ d ∧ d ≤ 4294967295) ∧ (l.length : Int) ≤ 9223372036854775807 := by
  rcases open_ints Tryz.underlying42 Tryz.underlying97 cells4 h with ⟨hcs, _⟩ | ⟨a, l, c, zs, hcs, _, hl, hm, hz, _, hcell, hwf⟩
  · simp at hcs
    exact ⟨none, 0, [], hcs, fun j v hv => by simp [cells32] at hv, by simp, by simp⟩
  · simp at hcs
    subst hcs
    have hle : l ≤ zs.length := by rw [hz]; split <;> omega
    have hlen : (zs.take l).length = l := by rw [List.length_take]; omega
    unfold maxLen at hm
    refine ⟨some a, c, zs.take l, by rw [hlen], ints_lie hle hcell, fun d hd => ?_, by rw [hlen]; omega⟩
    have w0 := hwf d (List.mem_of_mem_take hd)
    simpa [Lit.wf, IntKind.min, IntKind.max, IntKind.signed, IntKind.bits] using w0
theorem nums_ex : ∀ r : List Int, (∀ c ∈ r, 0 ≤ c ∧ c ≤ 255) → ∃ l : List UInt8, nums l = r
  | [], _ => ⟨[], rfl⟩
  | c :: r, h => by
    obtain ⟨l, hl⟩ := nums_ex r (fun d hd => h d (List.mem_cons_of_mem _ hd))
    have hc := h c (by simp)
    refine ⟨UInt8.ofNat c.toNat :: l, ?_⟩
    unfold nums at hl ⊢
    rw [List.map_cons, hl, u8_of hc.1 hc.2]
theorem open_bytes {A : Option Addr} {len cap : Nat} {d : DataW H} {p : List MemPlace} (h : DataW.Trod enc Tryz.prog W 0 sp true 22 (.slice A len cap) d p) :
    ∃ l : List UInt8, l.length = len ∧ Lies W W.heap.size A (cells (nums l)) ∧ (A = none → cap = 0) ∧ (l.length : Int) ≤ 9223372036854775807 := by
  obtain ⟨fuel, hf⟩ := h
  rcases open_ints Tryz.underlying22 Tryz.underlying5 cellsB hf with ⟨hcs, _⟩ | ⟨a, l, c, zs, hcs, _, hl, hm, hz, _, hcell, hwf⟩
  · simp [Value.cells] at hcs
    obtain ⟨rfl, rfl, rfl⟩ := hcs
    exact ⟨[], rfl, Lies.nil, fun _ => rfl, by simp⟩
  · simp [Value.cells] at hcs
    obtain ⟨rfl, rfl, rfl⟩ := hcs
    have hle : len ≤ zs.length := by rw [hz]; split <;> omega
    have hlen : (zs.take len).length = len := by rw [List.length_take]; omega
    obtain ⟨bs, hbs⟩ := nums_ex (zs.take len) (fun d hd => by
      have w0 := hwf d (List.mem_of_mem_take hd)
      simpa [Lit.wf, IntKind.min, IntKind.max, IntKind.signed, IntKind.bits] using w0)
    have hbl : bs.length = len := by rw [← nums_length, hbs, hlen]
    unfold maxLen at hm
    refine ⟨bs, hbl, ?_, (fun e => by cases e), by rw [hbl]; omega⟩
    rw [hbs]
    exact ints_lie hle hcell
/-- The parts of an instruction. -/
theorem open_parts {n : Nat} {v0 v1 v2 v3 : Value} {y0 y1 y2 y3 : DataW H × List MemPlace}
    (h0 : DataW.trod enc Tryz.prog W 0 sp true n 5 [v0] = some y0) (h1 : DataW.trod enc Tryz.prog W 0 sp true n 41 [v1] = some y1) (h2 : DataW.trod enc Tryz.prog W 0 sp true n 41 [v2] = some y2) (h3 : DataW.trod enc Tryz.prog W 0 sp true n 42 [v3] = some y3) :
    ∃ (i : I) (A : Option Addr) (c : Nat), v0 = .int .u8 i.op.toNat ∧ v1 = .int .u64 i.a ∧ v2 = .int .u64 i.b ∧ v3 = .slice A i.l.length c ∧ i.Ok ∧ LiesL W A i.l ∧ (i.l.length : Int) ≤ 9223372036854775807 := by
  obtain ⟨x0, e0, _, w0⟩ := DataW.trod_int Tryz.underlying5 h0
  obtain ⟨x1, e1, _, w1⟩ := DataW.trod_int Tryz.underlying41 h1
  obtain ⟨x2, e2, _, w2⟩ := DataW.trod_int Tryz.underlying41 h2
  obtain ⟨A, c, l, e3, hl, hn, hm⟩ := open_labels h3
  simp only [List.cons.injEq, and_true] at e0 e1 e2
  have b0 : 0 ≤ x0 ∧ x0 ≤ 255 := by simpa [Lit.wf, IntKind.min, IntKind.max, IntKind.signed, IntKind.bits] using w0
  have b1 : 0 ≤ x1 ∧ x1 ≤ 18446744073709551615 := by simpa [Lit.wf, IntKind.min, IntKind.max, IntKind.signed, IntKind.bits] using w1
  have b2 : 0 ≤ x2 ∧ x2 ≤ 18446744073709551615 := by simpa [Lit.wf, IntKind.min, IntKind.max, IntKind.signed, IntKind.bits] using w2
  exact ⟨⟨UInt8.ofNat x0.toNat, x1, x2, l⟩, A, c, by rw [e0, u8_of b0.1 b0.2], e1, e2, e3, ⟨b1.1, b1.2, b2.1, b2.2, hn⟩, hl, hm⟩
theorem open_ins {b0 : Nat} {r : Reach} {v : Value} {d : DataW H} {p : List MemPlace} (hv : Value.okWide Tryz.prog W r b0 44 v) (h : DataW.Trod enc Tryz.prog W 0 sp true 44 v d p) :
    ∃ (i : I) (A : Option Addr) (c : Nat), v = insV i A c ∧ i.Ok ∧ LiesL W A i.l ∧ (i.l.length : Int) ≤ 9223372036854775807 := by
  obtain ⟨v0, v1, v2, v3, y0, y1, y2, y3, n, rfl, _, _, h0, h1, h2, h3⟩ := open_agg4 Tryz.underlying44 (by kernel_rfl) (by kernel_rfl) hv h
  obtain ⟨i, A, c, rfl, rfl, rfl, rfl, ho, hl, hn⟩ := open_parts h0 h1 h2 h3
  exact ⟨i, A, c, rfl, ho, hl, hn⟩
end
end Go.Proofs.YtebgmfjgapmpfaaGreatDoor

/- Lists of global types and of values in memory; values in a row of the call's own. -/
namespace Go.Proofs.YtebgmfjgapmpfaaGreatDoor
open Go.RowKit
set_option linter.unusedVariables false
set_option maxRecDepth 100000

def boolOf : Value → Bool
  | .bool b => b
  | _ => false
/-- A list of global types. -/
def LiesG (w : World) (A : Option Addr) (l : List (Int × Bool)) : Prop :=
  ∀ i t m, l[i]? = some (t, m) → ∃ b off, A = some ⟨b, off, none⟩ ∧ b < w.heap.size ∧ w.cell? ⟨b, off + i * 2, none⟩ = some (.int .u8 t) ∧ w.cell? ⟨b, off + i * 2 + 1, none⟩ = some (.bool m)
theorem LiesG.below {w w' : World} {A : Option Addr} {l : List (Int × Bool)} (h : LiesG w A l) (hb : Below w.heap.size w w') : LiesG w' A l := fun i t m hi => by
  obtain ⟨b, off, e, h1, h2, h3⟩ := h i t m hi
  exact ⟨b, off, e, Nat.lt_of_lt_of_le h1 hb.size, (hb.cell (p := ⟨b, off + i * 2, none⟩) (by show b < _; omega)).trans h2, (hb.cell (p := ⟨b, off + i * 2 + 1, none⟩) (by show b < _; omega)).trans h3⟩
/-- A list of values. -/
def LiesP (w : World) (A : Option Addr) (l : List (Int × Int)) : Prop :=
  ∀ i t n, l[i]? = some (t, n) → ∃ b off, A = some ⟨b, off, none⟩ ∧ b < w.heap.size ∧ w.cell? ⟨b, off + i * 2, none⟩ = some (.int .u8 t) ∧ w.cell? ⟨b, off + i * 2 + 1, none⟩ = some (.int .u64 n)
theorem LiesP.below {w w' : World} {A : Option Addr} {l : List (Int × Int)} (h : LiesP w A l) (hb : Below w.heap.size w w') : LiesP w' A l := fun i t m hi => by
  obtain ⟨b, off, e, h1, h2, h3⟩ := h i t m hi
  exact ⟨b, off, e, Nat.lt_of_lt_of_le h1 hb.size, (hb.cell (p := ⟨b, off + i * 2, none⟩) (by show b < _; omega)).trans h2, (hb.cell (p := ⟨b, off + i * 2 + 1, none⟩) (by show b < _; omega)).trans h3⟩
theorem LiesP.nil (w : World) : LiesP w none [] := fun i t n h => by cases h

def valC (x : Int × Int) : List Value := [.int .u8 x.1, .int .u64 x.2]
theorem flatV_get : ∀ (l : List (Int × Int)) (j : Nat) (x : Int × Int) (u : Nat), l[j]? = some x → u < 2 → (l.flatMap valC)[j * 2 + u]? = (valC x)[u]?
  | [], j, x, u, h, _ => by cases h
  | y :: l, 0, x, u, h, hu => by
    injection h with h
    subst h
    rw [List.flatMap_cons, Nat.zero_mul, Nat.zero_add, List.getElem?_append_left (by show u < 2; exact hu)]
  | y :: l, j + 1, x, u, h, hu => by
    rw [List.flatMap_cons, List.getElem?_append_right (by show 2 ≤ _; omega)]
    have e : (j + 1) * 2 + u - (valC y).length = j * 2 + u := by show (j + 1) * 2 + u - 2 = _; omega
    rw [e]
    exact flatV_get l j x u h hu
end Go.Proofs.YtebgmfjgapmpfaaGreatDoor

/- A list of global types, a value: opened. -/
namespace Go.Proofs.YtebgmfjgapmpfaaGreatDoor
open Go.ChangeShapes Go.WideShapes Go.ChangeAt Go.RowKit Go.Joins
set_option linter.unusedVariables false
set_option maxRecDepth 100000

theorem wf8 {a : Int} (h : (Lit.int .u8 a).wf = true) : 0 ≤ a ∧ a ≤ 255 := by simpa [Lit.wf, IntKind.min, IntKind.max, IntKind.signed, IntKind.bits] using h
theorem wf32 {a : Int} (h : (Lit.int .u32 a).wf = true) : 0 ≤ a ∧ a ≤ 4294967295 := by simpa [Lit.wf, IntKind.min, IntKind.max, IntKind.signed, IntKind.bits] using h
theorem wf64 {a : Int} (h : (Lit.int .u64 a).wf = true) : 0 ≤ a ∧ a ≤ 18446744073709551615 := by simpa [Lit.wf, IntKind.min, IntKind.max, IntKind.signed, IntKind.bits] using h
theorem open_bytesC {H : Type} {enc : TypeId × Value → H} {W : World} {sp : Nat → Bool} {A : Option Addr} {len cap : Nat} {d : DataW H} {p : List MemPlace} (h : DataW.Trod enc Tryz.prog W 0 sp true 22 (.slice A len cap) d p) :
    ∃ l : List UInt8, l.length = len ∧ Lies W W.heap.size A (cells (nums l)) ∧ (A = none → cap = 0) ∧ len ≤ cap ∧ cap ≤ maxLen := by
  obtain ⟨fuel, hf⟩ := h
  rcases open_ints Tryz.underlying22 Tryz.underlying5 cellsB hf with ⟨hcs, _⟩ | ⟨a, l, c, zs, hcs, _, hl, hm, hz, _, hcell, hwf⟩
  · simp [Value.cells] at hcs
    obtain ⟨rfl, rfl, rfl⟩ := hcs
    exact ⟨[], rfl, Lies.nil, fun _ => rfl, Nat.le_refl _, Nat.zero_le _⟩
  · simp [Value.cells] at hcs
    obtain ⟨rfl, rfl, rfl⟩ := hcs
    have hle : len ≤ zs.length := by rw [hz]; split <;> omega
    have hlen : (zs.take len).length = len := by rw [List.length_take]; omega
    obtain ⟨bs, hbs⟩ := nums_ex (zs.take len) (fun d hd => by
      have w0 := hwf d (List.mem_of_mem_take hd)
      simpa [Lit.wf, IntKind.min, IntKind.max, IntKind.signed, IntKind.bits] using w0)
    have hbl : bs.length = len := by rw [← nums_length, hbs, hlen]
    refine ⟨bs, hbl, ?_, (fun e => by cases e), by omega, hm⟩
    rw [hbs]
    exact ints_lie hle hcell
theorem cG : Tryz.prog.cellsOf 40 = 2 := by kernel_rfl
theorem cGb : Tryz.prog.cellsOf 4 = 1 := by kernel_rfl
end Go.Proofs.YtebgmfjgapmpfaaGreatDoor

/- A constant expression that was written is read: as plain functions. -/
namespace Go.Proofs.YtebgmfjgapmpfaaGreatDoor
open Go.RowKit
set_option linter.unusedVariables false
set_option maxRecDepth 100000

theorem intR_at {l r : List UInt8} {k n : Nat} {x : Int} (h : l.drop k = sebL x ++ r) (h0 : -2 ^ (n - 1) ≤ x) (h1 : x < 2 ^ (n - 1)) (n1 : 1 ≤ n) (n2 : n ≤ 64) : intR l k n = .ok x (k + (sebL x).length) := by
  have m63 : (2 : Int) ^ (n - 1) ≤ 2 ^ 63 := mono2 (by omega)
  have e63 : (2 : Int) ^ 63 = 9223372036854775808 := rfl
  have hna := sebN_least x (by omega) (by omega)
  have hlen := sebL_length x
  have hnl := nums_sebL x
  obtain ⟨p, c, he, hg, hx, c0, c1, hf, hp⟩ := least_s h0 h1 n1 n2 hna
  rw [he] at hlen hnl
  have hd : (nums l).drop k = grps x p ++ c :: nums r := by
    have : (nums l).drop k = nums (l.drop k) := by unfold nums; rw [List.map_drop]
    rw [this, h, nums_append, hnl, ← he, hg]
    simp
  have hq : onN l k n = p := by
    have := onN_stop l k n
    rw [hd] at this
    exact this.unique (grps_stop x p _ c _ c1 (by omega))
  unfold intR
  rw [if_pos ⟨n1, n2⟩, hq, if_neg (by omega), hd, grps_at]
  simp only
  rw [if_pos hf, grps_take, hlen]
  have e : numS (grps x p) c = x := by unfold numS; rw [low_grps, grps_length]; exact hx
  rw [e]
theorem getR_c {l r : List UInt8} {k : Nat} {i : I} (oi : i.Ok) (h0 : crightZ i = 0) (h : l.drop k = putL i ++ r) : getR l k = .ok i (k + (putL i).length) := by
  obtain ⟨hr, hc⟩ := cr_zero h0
  have hl := cz_nil h0
  obtain ⟨hc0, _, _, hb8, hz0⟩ := right_zero hr
  obtain ⟨a0, a1, b0, b1, _⟩ := oi
  obtain ⟨_, _, hz3⟩ := nums_zero hz0 a0
  obtain ⟨m, hm⟩ : ∃ m, m = immR i.n := ⟨_, rfl⟩
  have hm3 : m = 7 ∨ m = 10 ∨ m = 11 := by
    rw [hm]
    rcases hc with e | e | e
    all_goals rw [show i.n = _ from e]; decide +kernel
  rw [← hm] at hb8 hz3
  have hb : i.b = 0 := by omega
  have hp1 : putL i = i.op :: immB m i := by unfold putL immL; rw [hm]
  rw [hp1, List.cons_append] at h
  have hd1 : l.drop (k + 1) = immB m i ++ r := drop_past (a := [i.op]) h
  have hop : opR l k = .ok i.op (k + 1) := by unfold opR; rw [byteR_at h, Res.bind_ok, if_pos hc0]
  unfold getR
  rw [hop, Res.bind_ok]
  rw [show immR i.op.toNat = m from hm.symm, hp1, show k + (i.op :: immB m i).length = k + 1 + (immB m i).length by rw [List.length_cons]; omega]
  clear hm hop hp1 h hr hc hc0 hz0 h0
  obtain ⟨o, a, b, ls⟩ := i
  simp only at hl hb a0 a1 hz3 hd1 ⊢
  subst hl
  subst hb
  rcases hm3 with rfl | rfl | rfl
  · have himm : immB 7 ⟨o, a, 0, []⟩ = lebL a := by simp [immB]
    rw [himm] at hd1 ⊢
    have hbd : bodyR 7 o l (k + 1) = (indexR l (k + 1)).bind fun a k1 => .ok ⟨o, a, 0, []⟩ k1 := by simp [bodyR]
    rw [hbd, indexR_at hd1 a0 (by have := (hz3 (by omega)).1; omega), Res.bind_ok]
  · have himm : immB 10 ⟨o, a, 0, []⟩ = sebL (s32 a) := by simp [immB]
    rw [himm] at hd1 ⊢
    have ha := (hz3 (by omega)).1
    have hbd : bodyR 10 o l (k + 1) = (intR l (k + 1) 32).bind fun v k1 => .ok ⟨o, v % 4294967296, 0, []⟩ k1 := by simp [bodyR]
    rw [hbd, intR_at hd1 (show -2147483648 ≤ s32 a by unfold s32; omega) (show s32 a < 2147483648 by unfold s32; omega) (by omega) (by omega), Res.bind_ok, show s32 a % 4294967296 = a by unfold s32; omega]
  · have himm : immB 11 ⟨o, a, 0, []⟩ = sebL (s64 a) := by simp [immB]
    rw [himm] at hd1 ⊢
    have hbd : bodyR 11 o l (k + 1) = (intR l (k + 1) 64).bind fun v k1 => .ok ⟨o, v % 18446744073709551616, 0, []⟩ k1 := by simp [bodyR]
    rw [hbd, intR_at hd1 (show -9223372036854775808 ≤ s64 a by unfold s64; omega) (show s64 a < 9223372036854775808 by unfold s64; omega) (by omega) (by omega), Res.bind_ok, show s64 a % 18446744073709551616 = a by unfold s64; omega]
theorem readR_at {l r : List UInt8} {k : Nat} {i : I} (oi : i.Ok) (h0 : crightZ i = 0) (h : l.drop k = cputL i ++ r) : readR l k = .ok i (k + (cputL i).length) := by
  have hd : l.drop k = putL i ++ (11 :: r) := by rw [h]; unfold cputL; simp
  have hg := getR_c oi h0 hd
  have hd2 := drop_past hd
  unfold readR
  rw [hg, Res.bind_ok, if_pos h0, byteR_at hd2, Res.bind_ok, if_pos rfl]
  unfold cputL
  rw [List.length_append, List.length_singleton, Nat.add_assoc]
end Go.Proofs.YtebgmfjgapmpfaaGreatDoor
