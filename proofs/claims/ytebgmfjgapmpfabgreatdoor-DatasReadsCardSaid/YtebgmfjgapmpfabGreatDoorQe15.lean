/- abort.Value of a function that ends well, whatever it hands back: api.Data. (By gen/genVal.py.) -/
import Derived.Test.YtebgmfjgapmpfabGreatDoorQe14
import Derived.Test.YtebgmfjgapmpfabGreatDoorQe09
import Derived.Test.YtebgmfjgapmpfabGreatDoorQe03
import Derived.Test.YtebgmfjgapmpfabGreatDoorQe05
import Derived.RegionTactic
import Derived.Test.YtebgmfjgapmpfabGreatDoorQe02
import Derived.Test.YtebgmfjgapmpfabGreatDoorQe01
import Derived.Test.YtebgmfjgapmpfabGreatDoorQe13
import Derived.Test.YtebgmfjgapmpfabGreatDoorQe11
import Derived.Test.YtebgmfjgapmpfabGreatDoorQe12
import Derived.Test.YtebgmfjgapmpfabGreatDoorQe04
import Derived.Deep.CutBlock
import Derived.Deep.DeepCutAuto
namespace Go.Proofs.YtebgmfjgapmpfabGreatDoor
open Go.RowKit
set_option linter.unusedVariables false
set_option maxRecDepth 100000

section
variable {T : SlotDa → World → Prop}
/-- What Value's closure leaves behind, seen from Value's beginning. -/
structure VSDa (T : SlotDa → World → Prop) (w : World) (q : Nat) (x : SlotDa) (w1 : World) : Prop where
  kept : T x w1
  grown : w.grownBy w1 (some q)
  val : Whole w1 (w.heap.size + 3) 61 #[.int .u8 x.1.i.op.toNat, .int .u64 x.1.i.a, .int .u64 x.1.i.b, .slice x.2.1 x.1.i.l.length x.2.2, .string (S x.1.bs)]
  r1 : Whole w1 (w.heap.size + 1) 61 #[.int .u8 0, .int .u64 0, .int .u64 0, .slice none 0 0, .string { data := #[] }]
  r2 : Whole w1 (w.heap.size + 2) 39 #[.int .i64 0, .int .i64 0]
end
end Go.Proofs.YtebgmfjgapmpfabGreatDoor

/- abort.Value of a function that ends well, whatever it hands back: api.Instr. (By gen/genVal.py.) -/
namespace Go.Proofs.YtebgmfjgapmpfabGreatDoor
open Go.RowKit
set_option linter.unusedVariables false
set_option maxRecDepth 100000

section
variable {T : (I × Option Addr × Nat) → World → Prop}
/-- What Value's closure leaves behind, seen from Value's beginning. -/
structure VSI (T : (I × Option Addr × Nat) → World → Prop) (w : World) (q : Nat) (x : (I × Option Addr × Nat)) (w1 : World) : Prop where
  kept : T x w1
  grown : w.grownBy w1 (some q)
  val : Whole w1 (w.heap.size + 3) 59 #[.int .u8 x.1.op.toNat, .int .u64 x.1.a, .int .u64 x.1.b, .slice x.2.1 x.1.l.length x.2.2]
  r1 : Whole w1 (w.heap.size + 1) 59 #[.int .u8 0, .int .u64 0, .int .u64 0, .slice none 0 0]
  r2 : Whole w1 (w.heap.size + 2) 39 #[.int .i64 0, .int .i64 0]
end
end Go.Proofs.YtebgmfjgapmpfabGreatDoor

/- abort.Value of a function that aborts; scan.Over of any bytes. -/
namespace Go.Proofs.YtebgmfjgapmpfabGreatDoor
open Go.RowKit
set_option linter.unusedVariables false
set_option maxRecDepth 100000

/-- bytes.Clone of any bytes. -/
theorem clone_any {w : World} {A : Option Addr} {cap : Nat} {l : List UInt8} (hl : Lies w w.heap.size A (cells (nums l))) (hA : A = none → cap = 0) (hc : l.length ≤ 1000000) :
    Calls Tryz.prog 34 #[.slice A l.length cap] w (BytesL l w) := by
  by_cases h0 : 0 < l.length
  · exact clone_ok hl h0 hc
  · have hl0 : l = [] := List.eq_nil_of_length_eq_zero (by omega)
    subst hl0
    cases A with
    | none =>
      obtain rfl := hA rfl
      show Calls Tryz.prog 34 #[.slice none 0 0] w (BytesL [] w)
      have hnil : ∀ w : World, (binOp BinOp.eql 32 (.slice none 0 0) (.slice none 0 0)).run Tryz.prog w = .ok (.bool true) w := fun w => by
        simp only [binOp]
        simp [run_equal_slice_nil w 32 5 _ _ _ Tryz.underlying32]
      clear hl h0 hc hA
      go_enter Tryz.func34, Tryz.ntmps34
      go_wp2
      go_ret
      exact ⟨_, rfl, Row.nil _ _, Below.refl _ _⟩
    | some ad =>
      show Calls Tryz.prog 34 #[.slice (some ad) 0 cap] w (BytesL [] w)
      have hnil : ∀ w : World, (binOp BinOp.eql 32 (.slice (some ad) 0 cap) (.slice none 0 0)).run Tryz.prog w = .ok (.bool false) w := fun w => by
        simp only [binOp]
        simp [run_equal_slice_nil w 32 5 _ _ _ Tryz.underlying32]
      have R0 := Lib.hid (Row.made w [] w.heap.size w.heap.size rfl (Nat.le_refl _) (by simp))
      have HL := Lib.hid (hl.below (below_box w (.cells #[] 5)) (Nat.le_refl _))
      clear hl h0 hc hA
      go_enter Tryz.func34, Tryz.ntmps34
      go_wp2_with (at_builtin; (refine row_any rfl _ _ rfl w.heap.size _ [] rfl R0.out (some ad) 0 cap _ [] rfl rfl HL.out (fun e => by cases e) (by simp) (by simp) ?_; intro v2 w2 hr2 hb2; have HR2 := Lib.hid hr2; have HB2 := Lib.hid hb2; clear hr2 hb2))
      go_ret
      exact ⟨_, rfl, HR2.out, (below_box w _).trans HB2.out⟩
theorem over_any {w : World} {A : Option Addr} {cap : Nat} {l : List UInt8} (hl : Lies w w.heap.size A (cells (nums l))) (hA : A = none → cap = 0) (hc : l.length ≤ 1000000) :
    Calls Tryz.prog 12 #[.slice A l.length cap] w (Overs l w) := by
  have HC := Lib.hid (clone_any (cap := cap) hl hA hc)
  clear hl hA
  go_enter Tryz.func12, Tryz.ntmps12
  go_wp2_with (go_at_call 34; go_must ((with_reducible refine HC.out.mono ?_); intro e w1 h; obtain ⟨v, rfl, hr, hb⟩ := h; obtain ⟨A1, c1, rfl, h1, h2, hl1, _⟩ := lies_own hr; have HL := Lib.hid hl1; have H1 := Lib.hid h1; have H2 := Lib.hid h2; have HB := Lib.hid hb; clear hl1 hr h1 h2 hb))
  go_ret
  exact ⟨w1.heap.size, rfl, HB.out.size, ⟨A1, c1, Whole.made _ _ _, HL.out.below (below_box w1 _) (Nat.le_refl _), H1.out, H2.out, by simp⟩, HB.out.trans ((below_box w1 _).mono HB.out.size)⟩
end Go.Proofs.YtebgmfjgapmpfabGreatDoor

/- parse and Parse of an instruction's bytes. -/
namespace Go.Proofs.YtebgmfjgapmpfabGreatDoor
open Go.RowKit
set_option linter.unusedVariables false
set_option maxRecDepth 100000

/-- What is kept of an instruction that was read. -/
def KeepI (p : Nat) (l : List UInt8) (i : I) (k lo : Nat) (x : I × Option Addr × Nat) (W : World) : Prop :=
  x.1 = i ∧ Sc W p l k ∧ Lies W W.heap.size x.2.1 (cells32 i.l) ∧ ∀ a, x.2.1 = some a → lo ≤ a.block
theorem KeepI.on {p : Nat} {l : List UInt8} {i : I} {k lo : Nat} {x : I × Option Addr × Nat} {W W' : World} {b : Nat} (h : KeepI p l i k lo x W) (hg : W.grownBy W' (some b)) (h1 : p < b) (h2 : b < lo) : KeepI p l i k lo x W' := by
  obtain ⟨h3, h4, h5, h6⟩ := h
  exact ⟨h3, h4.grown hg (by simp only [ne_eq, Option.some.injEq]; omega) (fun g e => by injection e with e; omega), h5.keep hg (fun a ha => by have := h6 a ha; omega), h6⟩
/-- What parse hands back. -/
def Parsed (i : I) (n : Nat) (w : World) (e : Ending) (w' : World) : Prop :=
  ∃ A c, e = .returned (.tuple #[insV i A c, .int .i64 n, .agg #[.int .i64 0, .int .i64 0]]) ∧ Lies w' w'.heap.size A (cells32 i.l) ∧ Below w.heap.size w w' ∧ ∀ a, A = some a → w.heap.size ≤ a.block
theorem parsed_of {i : I} {A : Option Addr} {c n m : Nat} {w W : World} (hn : n = m) (h : Lies W W.heap.size A (cells32 i.l)) (hb : Below w.heap.size w W) (hf : ∀ a, A = some a → w.heap.size + 3 ≤ a.block) : Parsed i n w (.returned (.tuple #[insV i A c, .int .i64 m, .agg #[.int .i64 0, .int .i64 0]])) W.drew :=
  ⟨A, c, by rw [hn], h, hb.drew, fun a ha => by have := hf a ha; omega⟩
/-- The world in which parse's results are written. -/
structure ParseEnd (i : I) (A : Option Addr) (c p : Nat) (l : List UInt8) (w w1 w2 W : World) (n : Nat) : Prop where
  sc : Sc W p l n
  lab : Lies W W.heap.size A (cells32 i.l) ∧ ∀ a, A = some a → w.heap.size + 3 ≤ a.block
  bel : Below w.heap.size w W
  val : W.cell? ⟨w2.heap.size, 0, none⟩ = some (.int .u8 i.op.toNat) ∧ W.cell? ⟨w2.heap.size, 1, none⟩ = some (.int .u64 i.a) ∧ W.cell? ⟨w2.heap.size, 2, none⟩ = some (.int .u64 i.b) ∧ W.cell? ⟨w2.heap.size, 3, none⟩ = some (.slice A i.l.length c)
  ptr : W.cell? ⟨w1.heap.size, 0, none⟩ = some (.pointer (some ⟨p, 0, none⟩))
  stop : W.cell? ⟨w2.heap.size + 1, 0, none⟩ = some (.int .i64 0) ∧ W.cell? ⟨w2.heap.size + 1, 1, none⟩ = some (.int .i64 0)
  res : W.cell? ⟨w.heap.size + 1, 0, none⟩ = some (.int .u8 0) ∧ W.cell? ⟨w.heap.size + 1, 1, none⟩ = some (.int .u64 0) ∧ W.cell? ⟨w.heap.size + 1, 2, none⟩ = some (.int .u64 0) ∧ W.cell? ⟨w.heap.size + 1, 3, none⟩ = some (.slice none 0 0)
  free : W.frozen? ⟨w.heap.size + 1, 0, none⟩ = false ∧ W.frozen? ⟨w.heap.size + 1, 1, none⟩ = false ∧ W.frozen? ⟨w.heap.size + 1, 2, none⟩ = false ∧ W.frozen? ⟨w.heap.size + 1, 3, none⟩ = false
  res6 : W.cell? ⟨w.heap.size + 1 + 1, 0, none⟩ = some (.int .i64 0) ∧ W.cell? ⟨w.heap.size + 1 + 1, 1, none⟩ = some (.int .i64 0)
  free6 : W.frozen? ⟨w.heap.size + 1 + 1, 0, none⟩ = false ∧ W.frozen? ⟨w.heap.size + 1 + 1, 1, none⟩ = false
  w4 : Whole W (w.heap.size + 1) 59 #[.int .u8 0, .int .u64 0, .int .u64 0, .slice none 0 0]
  w6 : Whole W (w.heap.size + 1 + 1) 39 #[.int .i64 0, .int .i64 0]
  n1 : ¬ w2.heap.size = w.heap.size
  n2 : ¬ w2.heap.size = w.heap.size + 1
  n3 : ¬ w2.heap.size + 1 = w.heap.size
theorem ParseEnd.of {i : I} {A : Option Addr} {c p : Nat} {l : List UInt8} {w w0 w1 w2 : World} {n : Nat} (h0 : w0.heap.size = w.heap.size + 3) (hb0 : Below w.heap.size w w0) (h4 : Whole w0 (w.heap.size + 1) 59 #[.int .u8 0, .int .u64 0, .int .u64 0, .slice none 0 0]) (h6 : Whole w0 (w.heap.size + 2) 39 #[.int .i64 0, .int .i64 0])
    (hb : Below w0.heap.size w0 w1) (hz1 : w0.heap.size ≤ w1.heap.size) (hp : w0.heap.size ≤ p ∧ p < w1.heap.size) (hg : (w1.alloc (.cells #[.pointer (some ⟨p, 0, none⟩)] 36)).grownBy w2 (some p)) (hk : Sc w2 p l n ∧ Lies w2 w2.heap.size A (cells32 i.l) ∧ ∀ a, A = some a → w1.heap.size + 6 ≤ a.block) :
    ParseEnd i A c p l w w1 w2 ((w2.alloc (.cells (insC i A c) 59)).alloc (.cells #[.int .i64 0, .int .i64 0] 39)) n := by
  have hz2 := hg.size
  rw [size_box] at hz2
  obtain ⟨k1, k2, k3⟩ := hk
  have w4 := ((((h4.below hb).alloc (.cells #[.pointer (some ⟨p, 0, none⟩)] 36)).grown hg (by simp only [ne_eq, Option.some.injEq]; omega)).alloc (.cells (insC i A c) 59)).alloc (.cells #[.int .i64 0, .int .i64 0] 39)
  have w6 := ((((h6.below hb).alloc (.cells #[.pointer (some ⟨p, 0, none⟩)] 36)).grown hg (by simp only [ne_eq, Option.some.injEq]; omega)).alloc (.cells (insC i A c) 59)).alloc (.cells #[.int .i64 0, .int .i64 0] 39)
  have w7 := (((Whole.made w1 36 #[.pointer (some ⟨p, 0, none⟩)]).grown hg (by simp only [ne_eq, Option.some.injEq]; omega)).alloc (.cells (insC i A c) 59)).alloc (.cells #[.int .i64 0, .int .i64 0] 39)
  have w8 := (Whole.made w2 59 (insC i A c)).alloc (.cells #[.int .i64 0, .int .i64 0] 39)
  have w9 := Whole.made (w2.alloc (.cells (insC i A c) 59)) 39 #[.int .i64 0, .int .i64 0]
  rw [size_box] at w9
  refine ⟨(k1.alloc _).alloc _, ⟨lies_box (lies_box k2 _) _, fun a ha => by have := k3 a ha; omega⟩, ?_, ⟨w8.cell 0, w8.cell 1, w8.cell 2, w8.cell 3⟩, w7.cell 0, ⟨w9.cell 0, w9.cell 1⟩, ⟨w4.cell 0, w4.cell 1, w4.cell 2, w4.cell 3⟩, ⟨w4.frozen 0, w4.frozen 1, w4.frozen 2, w4.frozen 3⟩, ⟨w6.cell 0, w6.cell 1⟩, ⟨w6.frozen 0, w6.frozen 1⟩, w4, w6, by omega, by omega, by omega⟩
  have b1 : Below w.heap.size w (w1.alloc (.cells #[.pointer (some ⟨p, 0, none⟩)] 36)) := (hb0.trans (hb.mono (by omega))).alloc (by omega) _
  have b2 : Below w.heap.size w w2 := Below.grown b1 hg (by rw [size_box]; omega) (fun g e => by injection e with e; omega)
  exact (b2.alloc (by omega) _).alloc (by rw [size_box]; omega) _
theorem ParseEnd.fin {i : I} {A : Option Addr} {c p : Nat} {l : List UInt8} {w w1 w2 W : World} {n : Nat} (h : ParseEnd i A c p l w w1 w2 W n) (W6 : World)
    (hW : W6 = (((((W.setCell ⟨w.heap.size + 1, 0, none⟩ (.int .u8 i.op.toNat)).setCell ⟨w.heap.size + 1, 1, none⟩ (.int .u64 i.a)).setCell ⟨w.heap.size + 1, 2, none⟩ (.int .u64 i.b)).setCell ⟨w.heap.size + 1, 3, none⟩ (.slice A i.l.length c)).setCell ⟨w.heap.size + 1 + 1, 0, none⟩ (.int .i64 0)).setCell ⟨w.heap.size + 1 + 1, 1, none⟩ (.int .i64 0)) :
    Whole W6 (w.heap.size + 1) 59 (insC i A c) ∧ Whole W6 (w.heap.size + 1 + 1) 39 #[.int .i64 0, .int .i64 0] ∧ Lies W6 W6.heap.size A (cells32 i.l) ∧ Below w.heap.size w W6 := by
  subst hW
  obtain ⟨p1, g1⟩ := put4 (u0 := .int .u8 i.op.toNat) (u1 := .int .u64 i.a) (u2 := .int .u64 i.b) (u3 := .slice A i.l.length c) h.w4
  obtain ⟨p2, g2⟩ := put2 (u0 := .int .i64 0) (u1 := .int .i64 0) (h.w6.grown g1 (by simp only [ne_eq, Option.some.injEq]; omega))
  have hz := g1.size
  have hzw := h.w4.lt
  refine ⟨p1.grown g2 (by simp only [ne_eq, Option.some.injEq]; omega), p2, (h.lab.1.keep g1 (fun a ha => by have := h.lab.2 a ha; omega)).keep g2 (fun a ha => by have := h.lab.2 a ha; omega), ?_⟩
  have b1 : Below w.heap.size w _ := Below.grown h.bel g1 (by omega) (fun g e => by injection e with e; omega)
  exact Below.grown b1 g2 (by omega) (fun g e => by injection e with e; omega)
end Go.Proofs.YtebgmfjgapmpfabGreatDoor

/- types.Cut, Zero; creelref04.Cut; types.EncodeGlobal, creelref04.EncodeGlobal. -/
namespace Go.Proofs.YtebgmfjgapmpfabGreatDoor
set_option linter.unusedVariables false
set_option maxRecDepth 100000
open Go.RowKit

/-- A value, by its type and number. -/
abbrev vv (t n : Int) : Value := .agg #[.int .u8 t, .int .u64 n]
def cutZ (t n : Int) : Int := if t = 127 then n % 4294967296 else n
def rightB (t n : Int) : Bool := decide (valueZ t = 0) && decide (cutZ t n = n)
theorem and_low (n : Int) (h0 : 0 ≤ n) (h1 : n ≤ 18446744073709551615) : bits .and .u64 n 4294967295 = n % 4294967296 := by
  have e1 : (BitVec.ofInt 64 n).toNat = n.toNat := by
    rw [BitVec.toNat_ofInt]
    show (n % 18446744073709551616).toNat = _
    rw [Int.emod_eq_of_lt h0 (by omega)]
  have e2 : (BitVec.ofInt 64 4294967295).toNat = 2 ^ 32 - 1 := by decide
  show IntKind.u64.wrap ((BitVec.ofInt 64 n &&& BitVec.ofInt 64 4294967295).toNat : Nat) = _
  rw [BitVec.toNat_and, e1, e2, Nat.and_two_pow_sub_one_eq_mod]
  simp only [IntKind.wrap, IntKind.bits, IntKind.signed]
  simp
  omega

theorem below_two (w : World) (o o' : Obj) : Below w.heap.size w ((w.alloc o).alloc o') := (below_box w o).alloc (by simp) _
/-- A global's type, by value. -/
abbrev gv (t : Int) (m : Bool) : Value := .agg #[.int .u8 t, .bool m]
theorem two_of {w W W' : World} {u v : Value} {t : TypeId} (h : Boxed w (.cells #[u, v] t) W ∧ W.cell? ⟨w.heap.size, 0, none⟩ = some u ∧ W.cell? ⟨w.heap.size, 1, none⟩ = some v) (hb : Below W.heap.size W W') :
    Boxed w (.cells #[u, v] t) W' ∧ W'.cell? ⟨w.heap.size, 0, none⟩ = some u ∧ W'.cell? ⟨w.heap.size, 1, none⟩ = some v := ⟨h.1.on hb, (h.1.on hb).row 0, (h.1.on hb).row 1⟩
theorem encG_new (w : World) (t : Int) (m : Bool) (h0 : 0 ≤ t) (h1 : t ≤ 255) (B H : Nat) (hH : w.heap.size = H) (hb : B ≤ H) :
    Row (w.alloc (.cells #[.int .u8 t, .int .u8 (if m then 1 else 0)] 5)) B (.slice (some ⟨H, 0, none⟩) 2 2) (encG t m) := by
  have h := Row.made w (encG t m) B H hH hb (by simp [encG])
  rw [nums_encG t m h0 h1] at h
  exact h
theorem encG_str (w : World) (t : Int) (m : Bool) (h0 : 0 ≤ t) (h1 : t ≤ 255) (H : Nat) (hH : w.heap.size = H) :
    ∀ dst, Tryz.prog.underlying dst = some .string → (convert 32 dst (.slice (some ⟨H, 0, none⟩) 2 2)).run Tryz.prog (w.alloc (.cells #[.int .u8 t, .int .u8 (if m then 1 else 0)] 5)) = .ok (.string (S (encG t m))) (w.alloc (.cells #[.int .u8 t, .int .u8 (if m then 1 else 0)] 5)) := by
  obtain ⟨A, c, e, hs⟩ := (encG_new w t m h0 h1 H H hH (Nat.le_refl _)).str
  injection e with e1 e2 e3
  subst e1; subst e3
  exact hs
end Go.Proofs.YtebgmfjgapmpfabGreatDoor

/- The walk of ConstsReads. -/
namespace Go.Proofs.YtebgmfjgapmpfabGreatDoor
open Go.RowKit
set_option linter.unusedVariables false
set_option maxRecDepth 100000

/-- Both readers are laid: the scanner at p, the reference's at q, the scanner's variable behind it. -/
structure LR (w : World) (p q : Nat) (ms : List UInt8) (M : Option Addr) (cm : Nat) (W : World) : Prop where
  bel : Below w.heap.size w W
  tb : TbP p W
  sc : Sc W p ms 0
  rd : Whole W q 48 #[.slice M ms.length cm, .int .i64 0, .int .i64 0, .int .i64 0]
  vr : Whole W (q + 1) 36 #[.pointer (some ⟨p, 0, none⟩)]
  lo : w.heap.size ≤ p
  pq : p < q
  qz : q + 2 ≤ W.heap.size
theorem LR.of {w w1 w2 : World} {p : Nat} {ms : List UInt8} {M : Option Addr} {cm : Nat} (hT : Tabs w1) (hb1 : Below w.heap.size w w1) (hb2 : Below w1.heap.size w1 w2) (hp : w1.heap.size ≤ p) (hs : Sc w2 p ms 0) :
    LR w p w2.heap.size ms M cm ((w2.alloc (.cells #[.slice M ms.length cm, .int .i64 0, .int .i64 0, .int .i64 0] 48)).alloc (.cells #[.pointer (some ⟨p, 0, none⟩)] 36)) := by
  have hv := Whole.made (w2.alloc (.cells #[.slice M ms.length cm, .int .i64 0, .int .i64 0, .int .i64 0] 48)) 36 #[.pointer (some ⟨p, 0, none⟩)]
  rw [size_box] at hv
  have hz := hb1.size
  have hz2 := hb2.size
  have hb3 : Below w2.heap.size w2 ((w2.alloc (.cells #[.slice M ms.length cm, .int .i64 0, .int .i64 0, .int .i64 0] 48)).alloc (.cells #[.pointer (some ⟨p, 0, none⟩)] 36)) := below_two w2 _ _
  exact ⟨hb1.trans ((hb2.mono hz).trans (hb3.mono (by omega))), ⟨w1, hT, hp, hb2.trans (hb3.mono hz2)⟩, (hs.alloc _).alloc _, (Whole.made w2 _ _).alloc _, hv, by omega, hs.lt, by simp⟩
/-- The reference's reader, once the program's has read. -/
theorem LR.ref {w : World} {p q : Nat} {ms : List UInt8} {M : Option Addr} {cm : Nat} {W W4 : World} (h : LR w p q ms M cm W) (hg : W.grownBy W4 (some p)) (hm : Lies w w.heap.size M (cells (nums ms))) (hc : ms.length ≤ cm) (hx : cm ≤ maxLen) (o o' : Obj) :
    Rs ((W4.alloc o).alloc o') q ms (.at 0) ∧ Below w.heap.size w ((W4.alloc o).alloc o') := by
  have h1 := h.pq
  have h2 := h.lo
  have hz := hg.size
  have h3 := h.qz
  have hb4 : Below w.heap.size w W4 := Below.grown h.bel hg h.bel.size (fun g e => by injection e with e; omega)
  have hz0 := hb4.size
  have hb5 : Below w.heap.size w ((W4.alloc o).alloc o') := hb4.trans ((below_two W4 o o').mono hz0)
  have hr := ((h.rd.grown hg (by simp only [ne_eq, Option.some.injEq]; omega)).alloc o).alloc o'
  exact ⟨⟨M, cm, 0, hr, (hm.below hb5 (Nat.le_refl _)).more (by omega), hc, hx, rfl, Nat.zero_le _⟩, hb5⟩

/-- At the law's end, of bytes that are no constant expression: the Stop at b6, the instruction at b5, the reference's reader at q. -/
structure EndE (w : World) (b5 b6 q : Nat) (c a : Int) (u0 u1 : Value) (W : World) : Prop where
  bel : Below w.heap.size w W
  x : Whole W b5 59 #[.int .u8 0, .int .u64 0, .int .u64 0, .slice none 0 0]
  s : Whole W b6 39 #[.int .i64 c, .int .i64 a]
  r : Whole W q 48 #[u0, u1, .int .i64 c, .int .i64 a]
theorem EndE.on {w : World} {b5 b6 q : Nat} {c a : Int} {u0 u1 : Value} {W W' : World} (h : EndE w b5 b6 q c a u0 u1 W) (hb : Below W.heap.size W W') : EndE w b5 b6 q c a u0 u1 W' :=
  ⟨h.bel.trans (hb.mono h.bel.size), h.x.below hb, h.s.below hb, h.r.below hb⟩
abbrev CellsE (b5 b6 q : Nat) (c a : Int) (W : World) : Prop :=
  (W.cell? ⟨b5, 0, none⟩ = some (.int .u8 0) ∧ W.cell? ⟨b5, 1, none⟩ = some (.int .u64 0) ∧ W.cell? ⟨b5, 2, none⟩ = some (.int .u64 0) ∧ W.cell? ⟨b5, 3, none⟩ = some (.slice none 0 0)) ∧
  (W.cell? ⟨b6, 0, none⟩ = some (.int .i64 c) ∧ W.cell? ⟨b6, 1, none⟩ = some (.int .i64 a)) ∧ W.cell? ⟨q, 2, none⟩ = some (.int .i64 c) ∧ W.cell? ⟨q, 3, none⟩ = some (.int .i64 a)
theorem EndE.cells {w : World} {b5 b6 q : Nat} {c a : Int} {u0 u1 : Value} {W : World} (h : EndE w b5 b6 q c a u0 u1 W) : EndE w b5 b6 q c a u0 u1 W ∧ CellsE b5 b6 q c a W :=
  ⟨h, ⟨h.x.cell 0, h.x.cell 1, h.x.cell 2, h.x.cell 3⟩, ⟨h.s.cell 0, h.s.cell 1⟩, h.r.cell 2, h.r.cell 3⟩
/-- .. of bytes that begin with one. -/
structure EndO (w : World) (b5 b6 b8 p q : Nat) (ms : List UInt8) (i : I) (A2 : Option Addr) (c2 : Nat) (A3 : Option Addr) (c3 k : Nat) (W : World) : Prop where
  bel : Below w.heap.size w W
  x : Whole W b5 59 (insC i A2 c2)
  s : Whole W b6 39 #[.int .i64 0, .int .i64 0]
  y : Whole W b8 59 (insC i A3 c3)
  v : Whole W (q + 1) 36 #[.pointer (some ⟨p, 0, none⟩)]
  sc : Sc W p ms k
  r : Rs W q ms (.at k)
  l2 : LiesL W A2 i.l
  l3 : LiesL W A3 i.l
theorem EndO.on {w : World} {b5 b6 b8 p q : Nat} {ms : List UInt8} {i : I} {A2 : Option Addr} {c2 : Nat} {A3 : Option Addr} {c3 k : Nat} {W W' : World} (h : EndO w b5 b6 b8 p q ms i A2 c2 A3 c3 k W) (hb : Below W.heap.size W W') : EndO w b5 b6 b8 p q ms i A2 c2 A3 c3 k W' :=
  ⟨h.bel.trans (hb.mono h.bel.size), h.x.below hb, h.s.below hb, h.y.below hb, h.v.below hb, h.sc.below hb, h.r.below hb, h.l2.below hb, h.l3.below hb⟩
abbrev CellsO (b5 b6 b8 p q : Nat) (i : I) (A2 : Option Addr) (c2 : Nat) (A3 : Option Addr) (c3 k : Nat) (W : World) : Prop :=
  (W.cell? ⟨b5, 0, none⟩ = some (.int .u8 i.op.toNat) ∧ W.cell? ⟨b5, 1, none⟩ = some (.int .u64 i.a) ∧ W.cell? ⟨b5, 2, none⟩ = some (.int .u64 i.b) ∧ W.cell? ⟨b5, 3, none⟩ = some (.slice A2 i.l.length c2)) ∧
  (W.cell? ⟨b8, 0, none⟩ = some (.int .u8 i.op.toNat) ∧ W.cell? ⟨b8, 1, none⟩ = some (.int .u64 i.a) ∧ W.cell? ⟨b8, 2, none⟩ = some (.int .u64 i.b) ∧ W.cell? ⟨b8, 3, none⟩ = some (.slice A3 i.l.length c3)) ∧
  W.cell? ⟨b6, 0, none⟩ = some (.int .i64 0) ∧ W.cell? ⟨q + 1, 0, none⟩ = some (.pointer (some ⟨p, 0, none⟩)) ∧ W.cell? ⟨q, 1, none⟩ = some (.int .i64 k)
theorem EndO.cells {w : World} {b5 b6 b8 p q : Nat} {ms : List UInt8} {i : I} {A2 : Option Addr} {c2 : Nat} {A3 : Option Addr} {c3 k : Nat} {W : World} (h : EndO w b5 b6 b8 p q ms i A2 c2 A3 c3 k W) : EndO w b5 b6 b8 p q ms i A2 c2 A3 c3 k W ∧ CellsO b5 b6 b8 p q i A2 c2 A3 c3 k W :=
  ⟨h, ⟨h.x.cell 0, h.x.cell 1, h.x.cell 2, h.x.cell 3⟩, ⟨h.y.cell 0, h.y.cell 1, h.y.cell 2, h.y.cell 3⟩, h.s.cell 0, h.v.cell 0, at_at h.r⟩
theorem opR_nz {l : List UInt8} {k : Nat} {c a : Int} (h : opR l k = .err c a) : c ≠ 0 := by
  unfold opR at h
  cases hr : byteR l k with
  | err e b => rw [hr, Res.bind_err] at h; injection h with h1 h2; have := byteR_nz hr; omega
  | ok d p =>
    rw [hr, Res.bind_ok] at h
    by_cases hd : checkR d.toNat = 0
    · rw [if_pos hd] at h; cases h
    · rw [if_neg hd] at h; injection h with h1 h2; omega
theorem blockR_nz {l : List UInt8} {k : Nat} {c a : Int} (h : blockR l k = .err c a) : c ≠ 0 := by
  unfold blockR at h
  cases hr : byteR l k with
  | err e b => rw [hr, Res.bind_err] at h; injection h with h1 h2; have := byteR_nz hr; omega
  | ok d p =>
    rw [hr, Res.bind_ok] at h
    by_cases hd : blockZ d.toNat = 0
    · rw [if_pos hd] at h; cases h
    · rw [if_neg hd] at h; injection h with h1 h2; omega
theorem idxK_nz {l : List UInt8} {c a : Int} : ∀ (n q : Nat) (acc : List Int), idxK l n q acc = .err c a → c ≠ 0
  | 0, q, acc, h => by cases h
  | n + 1, q, acc, h => by
    unfold idxK at h
    cases hr : indexR l q with
    | err e b => rw [hr, Res.bind_err] at h; injection h with h1 h2; have := indexR_nz hr; omega
    | ok x p => rw [hr, Res.bind_ok] at h; exact idxK_nz n p _ h
theorem labelsR_nz {l : List UInt8} {k : Nat} {c a : Int} (h : labelsR l k = .err c a) : c ≠ 0 := by
  unfold labelsR at h
  cases hr : countR l k with
  | err e b =>
    rw [hr, Res.bind_err] at h
    injection h with h1 h2
    unfold countR atMostR at hr
    cases hi : indexR l k with
    | err e2 b2 => rw [hi, Res.bind_err] at hr; injection hr with h3 h4; have := indexR_nz hi; omega
    | ok v p =>
      rw [hi, Res.bind_ok] at hr
      by_cases hv : v ≤ 10000
      · rw [if_pos hv] at hr; cases hr
      · rw [if_neg hv] at hr; injection hr with h3 h4; omega
  | ok v p => rw [hr, Res.bind_ok] at h; exact idxK_nz _ _ _ h
theorem bind_nz {α β : Type} {r : Res α} {f : α → Nat → Res β} {c a : Int} (h : r.bind f = .err c a) (h1 : ∀ c a, r = .err c a → c ≠ 0) (h2 : ∀ v k c a, f v k = .err c a → c ≠ 0) : c ≠ 0 := by
  cases r with
  | err e b => rw [Res.bind_err] at h; injection h with g1 g2; subst g1; exact h1 _ _ rfl
  | ok v k => rw [Res.bind_ok] at h; exact h2 v k c a h
theorem bodyR_nz {l : List UInt8} {m : Nat} {o : UInt8} {k : Nat} {c a : Int} (h : bodyR m o l k = .err c a) : c ≠ 0 := by
  have no : ∀ {i : I} {k : Nat} {c a : Int}, Res.ok i k = .err c a → c ≠ 0 := fun h => by cases h
  unfold bodyR at h
  repeat' split at h
  · cases h
  · exact bind_nz h (fun _ _ => blockR_nz) (fun _ _ _ _ h => no h)
  · exact bind_nz h (fun _ _ => labelsR_nz) (fun _ _ _ _ h => bind_nz h (fun _ _ => indexR_nz) (fun _ _ _ _ h => no h))
  · exact bind_nz h (fun _ _ => indexR_nz) (fun _ _ _ _ h => bind_nz h (fun _ _ => noughtR_nz) (fun _ _ _ _ h => no h))
  · exact bind_nz h (fun _ _ => indexR_nz) (fun _ _ _ _ h => bind_nz h (fun _ _ => indexR_nz) (fun _ _ _ _ h => no h))
  · exact bind_nz h (fun _ _ => noughtR_nz) (fun _ _ _ _ h => no h)
  · exact bind_nz h (fun _ _ => intR_nz) (fun _ _ _ _ h => no h)
  · exact bind_nz h (fun _ _ => intR_nz) (fun _ _ _ _ h => no h)
  · exact bind_nz h (fun _ _ => indexR_nz) (fun _ _ _ _ h => no h)
theorem readR_err {l : List UInt8} {k : Nat} {c a : Int} (h : readR l k = .err c a) : ¬ c = 0 := by
  unfold readR at h
  refine bind_nz h (fun c a h => ?_) (fun i k1 c a h => ?_)
  · unfold getR at h
    exact bind_nz h (fun _ _ => opR_nz) (fun _ _ _ _ => bodyR_nz)
  · by_cases hz : crightZ i = 0
    · rw [if_pos hz] at h
      refine bind_nz h (fun _ _ => byteR_nz) (fun d k2 c a h => ?_)
      by_cases hd : d = 11
      · rw [if_pos hd] at h; cases h
      · rw [if_neg hd] at h; injection h with h1 h2; omega
    · rw [if_neg hz] at h; injection h with h1 h2; omega
theorem readR_len {l : List UInt8} {k : Nat} {i : I} {k' : Nat} (h : readR l k = .ok i k') : i.l.length ≤ 10000 := by
  unfold readR at h
  cases hr : getR l k with
  | err c a => rw [hr, Res.bind_err] at h; cases h
  | ok j p =>
    rw [hr, Res.bind_ok] at h
    by_cases hz : crightZ j = 0
    · rw [if_pos hz] at h
      cases hb : byteR l p with
      | err c a => rw [hb, Res.bind_err] at h; cases h
      | ok d p2 =>
        rw [hb, Res.bind_ok] at h
        by_cases hd : d = 11
        · rw [if_pos hd] at h
          injection h with h1 h2
          subst h1
          exact (getR_ok hr).2.1
        · rw [if_neg hd] at h; cases h
    · rw [if_neg hz] at h; cases h
theorem zero_same (w : World) : Calls Tryz.prog 47 #[.agg #[.int .u8 0, .int .u64 0, .int .u64 0, .slice none 0 0], .agg #[.int .u8 0, .int .u64 0, .int .u64 0, .slice none 0 0]] w (BoolPost true w) := by
  have := refSame_any (w := w) (A := none) (B := none) (c := 0) (d := 0) (i := ⟨0, 0, 0, []⟩) (k := ⟨0, 0, 0, []⟩) (fun j v hv => by simp [cells32] at hv) (fun j v hv => by simp [cells32] at hv) (by simp) (by simp)
  rw [show sameZ ⟨0, 0, 0, []⟩ ⟨0, 0, 0, []⟩ = true by unfold sameZ; simp] at this
  exact this
theorem EndE.of {w : World} {p q : Nat} {ms : List UInt8} {M : Option Addr} {cm : Nat} {W W4 w6 : World} {c a : Int} (h : LR w p q ms M cm W) (hg : W.grownBy W4 (some p))
    (hb5 : Below w.heap.size w ((W4.alloc (.cells #[.int .u8 0, .int .u64 0, .int .u64 0, .slice none 0 0] 59)).alloc (.cells #[.int .i64 c, .int .i64 a] 39)))
    (hr : Rs w6 q ms (.bad c a)) (hg6 : ((W4.alloc (.cells #[.int .u8 0, .int .u64 0, .int .u64 0, .slice none 0 0] 59)).alloc (.cells #[.int .i64 c, .int .i64 a] 39)).grownBy w6 (some q)) (o : Obj) :
    ∃ u0 u1, EndE w W4.heap.size (W4.heap.size + 1) q c a u0 u1 (w6.alloc o) := by
  have h1 := h.pq
  have h2 := h.lo
  have h3 := h.qz
  have hz := hg.size
  have hz5 := hb5.size
  obtain ⟨A, cap, j, hw, _, _, _, _⟩ := hr.badly
  have hs := Whole.made (W4.alloc (.cells #[.int .u8 0, .int .u64 0, .int .u64 0, .slice none 0 0] 59)) 39 #[.int .i64 c, .int .i64 a]
  rw [size_box] at hs
  have hb6 : Below w.heap.size w w6 := Below.grown hb5 hg6 hz5 (fun g e => by injection e with e; omega)
  exact ⟨_, _, hb6.alloc hb6.size _, (((Whole.made W4 _ _).alloc _).grown hg6 (by simp only [ne_eq, Option.some.injEq]; omega)).alloc _, (hs.grown hg6 (by simp only [ne_eq, Option.some.injEq]; omega)).alloc _, hw.alloc _⟩
theorem EndO.of {w : World} {p q : Nat} {ms : List UInt8} {M : Option Addr} {cm : Nat} {W W4 w6 : World} {i : I} {A2 A3 : Option Addr} {c2 c3 k : Nat} (h : LR w p q ms M cm W) (hg : W.grownBy W4 (some p))
    (hb5 : Below w.heap.size w ((W4.alloc (.cells (insC i A2 c2) 59)).alloc (.cells #[.int .i64 0, .int .i64 0] 39)))
    (hs4 : Sc W4 p ms k) (hl2 : Lies W4 W4.heap.size A2 (cells32 i.l)) (hf2 : ∀ a, A2 = some a → W.heap.size + 5 ≤ a.block)
    (hr : Rs w6 q ms (.at k)) (hl3 : Lies w6 w6.heap.size A3 (cells32 i.l)) (hg6 : ((W4.alloc (.cells (insC i A2 c2) 59)).alloc (.cells #[.int .i64 0, .int .i64 0] 39)).grownBy w6 (some q)) :
    EndO w W4.heap.size (W4.heap.size + 1) w6.heap.size p q ms i A2 c2 A3 c3 k (w6.alloc (.cells (insC i A3 c3) 59)) := by
  have h1 := h.pq
  have h2 := h.lo
  have h3 := h.qz
  have hz := hg.size
  have hz5 := hb5.size
  have hs := Whole.made (W4.alloc (.cells (insC i A2 c2) 59)) 39 #[.int .i64 0, .int .i64 0]
  rw [size_box] at hs
  have hb6 : Below w.heap.size w w6 := Below.grown hb5 hg6 hz5 (fun g e => by injection e with e; omega)
  have hl2' := (lies_box (lies_box hl2 (.cells (insC i A2 c2) 59)) (.cells #[.int .i64 0, .int .i64 0] 39)).keep hg6 (fun a ha => by have := hf2 a ha; omega)
  exact ⟨hb6.alloc hb6.size _, (((Whole.made W4 _ _).alloc _).grown hg6 (by simp only [ne_eq, Option.some.injEq]; omega)).alloc _, (hs.grown hg6 (by simp only [ne_eq, Option.some.injEq]; omega)).alloc _, Whole.made _ _ _,
    ((((h.vr.grown hg (by simp only [ne_eq, Option.some.injEq]; omega)).alloc _).alloc _).grown hg6 (by simp only [ne_eq, Option.some.injEq]; omega)).alloc _,
    (((hs4.alloc _).alloc _).grown hg6 (by simp only [ne_eq, Option.some.injEq]; omega) (fun g e => by injection e with e; omega)).alloc _, hr.alloc _, lies_box hl2' _, lies_box hl3 _⟩

theorem LR.ref1 {w : World} {p q : Nat} {ms : List UInt8} {M : Option Addr} {cm : Nat} {W W4 : World} (h : LR w p q ms M cm W) (hg : W.grownBy W4 (some p)) (hm : Lies w w.heap.size M (cells (nums ms))) (hc : ms.length ≤ cm) (hx : cm ≤ maxLen) (o : Obj) :
    Rs (W4.alloc o) q ms (.at 0) ∧ Below w.heap.size w (W4.alloc o) := by
  have h1 := h.pq
  have h2 := h.lo
  have hz := hg.size
  have h3 := h.qz
  have hb4 : Below w.heap.size w W4 := Below.grown h.bel hg h.bel.size (fun g e => by injection e with e; omega)
  have hz0 := hb4.size
  have hb5 : Below w.heap.size w (W4.alloc o) := hb4.trans ((below_box W4 o).mono hz0)
  have hr := (h.rd.grown hg (by simp only [ne_eq, Option.some.injEq]; omega)).alloc o
  exact ⟨⟨M, cm, 0, hr, (hm.below hb5 (Nat.le_refl _)).more (by omega), hc, hx, rfl, Nat.zero_le _⟩, hb5⟩
end Go.Proofs.YtebgmfjgapmpfabGreatDoor

/- creelref15.Put; creelref15.Same of two that are alike. -/
namespace Go.Proofs.YtebgmfjgapmpfabGreatDoor
open Go.RowKit
set_option linter.unusedVariables false
set_option maxRecDepth 100000

set_option maxHeartbeats 8000000 in
theorem rdaput_any (x : Da) (A : Option Addr) (c : Nat) (w : World) (oi : x.i.Ok) (h0 : crightZ x.i = 0) (hn : x.bs.length ≤ 200) :
    Calls Tryz.prog 25 #[daV x A c] w fun e w' => e = .returned (.string (S (dputL x))) ∧ Below w.heap.size w w' := by
  have H0 := Lib.hid (bxDa_start w x A c)
  have hcl := cputL_len oi h0
  have hll := lebL_len (x.bs.length : Int) (by omega)
  have HP := Lib.hid (fun W => show Calls Tryz.prog 49 #[insV x.i A c] W fun e w' => e = .returned (.string (S (cputL x.i))) ∧ Below W.heap.size W w' from rcput_any x.i A c W oi (cr_zero h0).1 (by rw [cz_nil h0]; intro j v hv; simp [cells32] at hv))
  have HC := Lib.hid (fun W => count_any (x.bs.length : Int) W (by omega) (by omega))
  have hsp : dputL x = ((0 :: cputL x.i) ++ lebL (x.bs.length : Int)) ++ x.bs := by unfold dputL szL; rw [List.append_assoc]
  rw [hsp]
  obtain ⟨y, hy⟩ : ∃ y, y = cputL x.i := ⟨_, rfl⟩
  obtain ⟨z, hz⟩ : ∃ z, z = lebL (x.bs.length : Int) := ⟨_, rfl⟩
  rw [← hy] at HP hcl ⊢
  rw [← hz] at HC hll ⊢
  have sy := S_size y
  have sz := S_size z
  have sb := S_size x.bs
  have e1 := S_append [0] y
  have HE : Hid ((⟨#[0]⟩ : ByteArray) ++ S y ++ S z ++ S x.bs = S (((0 :: y) ++ z) ++ x.bs)) := by
    rw [← S_append ((0 :: y) ++ z) x.bs, ← S_append (0 :: y) z]
    exact congrArg (· ++ S z ++ S x.bs) e1
  have q1b : ¬ 9223372036854775807 < 1 + (S y).size := by omega
  have q2a : ¬ 9223372036854775807 < 1 + (S y).size + (S z).size := by omega
  have q3a : ¬ 9223372036854775807 < 1 + (S y).size + (S z).size + (S x.bs).size := by omega
  obtain ⟨P, hP⟩ : ∃ P, P = ((0 :: y) ++ z) ++ x.bs := ⟨_, rfl⟩
  rw [← hP] at HE ⊢
  clear hP hsp h0 oi hy hz e1 sy sz hn
  have sb2 := Lib.hid sb
  go_enter Tryz.func25, Tryz.ntmps25
  go_wp2
  clear sb
  go_region_held3 (fun W => BxDa w w.heap.size x A c W) (first | assumption | exact bxDa_on H0.out (Below.refl _ _).drew)
    (first
      | (go_at_call 49; (with_reducible refine (HP.out _).mono ?_); rintro e w1 ⟨rfl, hb⟩; have hk1 := bxDa_on ‹_› hb; clear hb)
      | (go_simp; rw [sb2.out]; go_at_call 29; (with_reducible refine (HC.out _).mono ?_); rintro e w2 ⟨rfl, hb⟩; have hk2 := bxDa_on ‹_› hb; clear hb))
  go_wp2
  go_ret
  exact ⟨by rw [← HE.out]; rfl, bxDa_bel hk2⟩
set_option maxHeartbeats 2000000 in
/-- Same, of two that are alike and have no labels. -/
theorem rsame_da {w : World} {x : Da} {A B : Option Addr} {c d : Nat} (hx : x.i.l = []) :
    Calls Tryz.prog 22 #[daV x A c, daV x B d] w (BoolPost true w) := by
  have hb2 : Below w.heap.size w ((w.alloc (.cells (daC x A c) 61)).alloc (.cells (daC x B d) 61)) := (below_box w _).alloc (by simp) _
  have hS := refSame_any (w := (w.alloc (.cells (daC x A c) 61)).alloc (.cells (daC x B d) 61)) (A := A) (B := B) (c := c) (d := d) (i := x.i) (k := x.i) (by rw [hx]; intro j v hv; simp [cells32] at hv) (by rw [hx]; intro j v hv; simp [cells32] at hv) (by rw [hx]; simp) (by rw [hx]; simp)
  rw [same_self] at hS
  have HS := Lib.hid hS
  have HB := Lib.hid hb2
  have hbb : ((S x.bs).toList == (S x.bs).toList) = true := by rw [S_beqM]; simp
  clear hS hb2 hx
  go_enter Tryz.func22, Tryz.ntmps22
  go_wp2_with (go_at_call 47; go_must ((with_reducible refine HS.out.mono ?_); rintro e w2 ⟨rfl, hb⟩; have HB2 := Lib.hid hb; clear hb))
  go_ret
  exact ⟨rfl, HB.out.trans (HB2.out.mono HB.out.size)⟩
end Go.Proofs.YtebgmfjgapmpfabGreatDoor

/- A small number's bytes. -/
namespace Go.Proofs.YtebgmfjgapmpfabGreatDoor
set_option linter.unusedVariables false

theorem lebL_sm (x : Int) (h0 : 0 ≤ x) (h1 : x < 128) : lebL x = [UInt8.ofNat x.toNat] := by
  have hn : lebN x = 1 := (lebN_least x (by omega)).unique ⟨Nat.le_refl _, by unfold fitU; simpa using h1, fun m a b => by omega⟩
  unfold lebL
  rw [hn]
  simp [grp]
  congr 2
  omega
end Go.Proofs.YtebgmfjgapmpfabGreatDoor

/- awake; the laws' closures; two lists side by side. -/
namespace Go.Proofs.YtebgmfjgapmpfabGreatDoor
open Go.RowKit
set_option linter.unusedVariables false
set_option maxRecDepth 100000

/-- The page's example: two bytes, from 5 on. -/
def daEg : Da := ⟨cEg, [97, 98]⟩
theorem daEg_put : dputL daEg = [0, 65, 5, 11, 2, 97, 98] := by
  unfold dputL cputL szL
  show (0 :: (putL cEg ++ [11])) ++ (lebL (2 : Int) ++ [97, 98]) = _
  rw [cEg_put, lebL_sm 2 (by omega) (by omega)]
  rfl
theorem daawake_any (w : World) (hT : Tabs w) : Calls Tryz.prog 17 #[] w fun e w' => e = .returned (.bool true) ∧ Below w.heap.size w w' := by
  have hp := put_da daEg none 0 w cEg_ok hT (by decide) (by decide)
  obtain ⟨l, hl⟩ : ∃ l : List UInt8, l = [0, 65, 5, 11, 2, 97, 98] := ⟨_, rfl⟩
  have HP := Lib.hid (show Calls Tryz.prog 40 #[.agg #[.int .u8 65, .int .u64 5, .int .u64 0, .slice none 0 0, .string { data := #[97, 98] }]] w fun e w' => ∃ v, e = .returned (.tuple #[v, .int .i64 0]) ∧ Row w' w.heap.size v l ∧ Below w.heap.size w w' from hp.mono fun e w' ⟨v, h1, h2, h3⟩ => ⟨v, by rw [show crightZ daEg.i = 0 from cEg_zero] at h1; exact h1, by rw [if_pos (show crightZ daEg.i = 0 from cEg_zero), daEg_put] at h2; rw [hl]; exact h2, h3⟩)
  have hcmp : ((S l).toList == [0, 65, 5, 11, 2, 97, 98]) = true := by rw [S_toList, hl]; rfl
  clear hl
  clear hp hT
  go_enter Tryz.func17, Tryz.ntmps17
  go_wp2_with (go_at_call 40; go_must ((with_reducible refine HP.out.mono ?_); intro e w1 h; obtain ⟨v, rfl, hr, hb⟩ := h; obtain ⟨A, c, rfl, hcv⟩ := hr.str; have hcv2 := hcv 9 Tryz.underlying9; have HB := Lib.hid hb; clear hb hr hcv))
  go_ret
  exact ⟨rfl, HB.out⟩

theorem cfDa2 (cap : Array Value) (w : World) : (callFunc 27 cap).run Tryz.prog w = .ok (.enter 27 cap) w := by kernel_rfl
theorem cfDa3 (cap : Array Value) (w : World) : (callFunc 19 cap).run Tryz.prog w = .ok (.enter 19 cap) w := by kernel_rfl
theorem closDa3 {w : World} {p b : Nat} {l : List UInt8} {k : Nat} (hb : Whole w b 36 #[.pointer (some ⟨p, 0, none⟩)]) (hs : Sc w p l k) (hT : TbP p w) (hl : l.length ≤ 1000000) :
    Calls Tryz.prog 19 #[.pointer (some ⟨b, 0, none⟩)] w (GotAllDa p l (dasR l k) w) := by
  have c0 := hb.cell 0
  simp only [List.getElem?_toArray, List.getElem?_cons_zero] at c0
  have hG := getall_da hs hT hl
  clear hb hs hT
  obtain ⟨R, hR⟩ : ∃ R, R = dasR l k := ⟨_, rfl⟩
  rw [← hR] at hG ⊢
  clear hR
  cases R with
  | err c a =>
    have HG := Lib.hid (show Calls Tryz.prog 20 #[.pointer (some ⟨p, 0, none⟩)] w (fun e w' => e = .panicked (stopP c a) ∧ w.grownBy w' (some p)) from hG)
    clear hG
    go_enter Tryz.func19, Tryz.ntmps19
    go_wp2_with (go_at_call 20; go_must ((with_reducible refine HG.out.mono ?_); rintro e w1 ⟨rfl, hg⟩; have HG1 := Lib.hid hg; clear hg))
    exact ⟨rfl, rfl, HG1.out⟩
  | ok xs k2 =>
    have HG := Lib.hid (show Calls Tryz.prog 20 #[.pointer (some ⟨p, 0, none⟩)] w (fun e w' => ∃ v rows, e = .returned v ∧ RowDa w' w.heap.size v rows ∧ rows.map (·.1) = xs ∧ Sc w' p l k2 ∧ w.grownBy w' (some p)) from hG)
    clear hG
    go_enter Tryz.func19, Tryz.ntmps19
    go_wp2_with (go_at_call 20; go_must ((with_reducible refine HG.out.mono ?_); intro e w1 hq; obtain ⟨v, rows, rfl, hr, hm, hs, hg⟩ := hq; have HR := Lib.hid hr; have HS := Lib.hid hs; have HG1 := Lib.hid hg; have HM := Lib.hid hm; clear hr hs hg hm))
    go_ret
    exact ⟨_, rows, rfl, HR.out, HM.out, HS.out, HG1.out⟩
theorem closDa2 {w : World} {p b : Nat} {l : List UInt8} {k : Nat} (hb : Whole w b 36 #[.pointer (some ⟨p, 0, none⟩)]) (hs : Sc w p l k) (hT : TbP p w) (hl : l.length ≤ 1000000) :
    Calls Tryz.prog 27 #[.pointer (some ⟨b, 0, none⟩)] w (GotAllDa p l (dasR l k) w) := by
  have c0 := hb.cell 0
  simp only [List.getElem?_toArray, List.getElem?_cons_zero] at c0
  have hG := getall_da hs hT hl
  clear hb hs hT
  obtain ⟨R, hR⟩ : ∃ R, R = dasR l k := ⟨_, rfl⟩
  rw [← hR] at hG ⊢
  clear hR
  cases R with
  | err c a =>
    have HG := Lib.hid (show Calls Tryz.prog 20 #[.pointer (some ⟨p, 0, none⟩)] w (fun e w' => e = .panicked (stopP c a) ∧ w.grownBy w' (some p)) from hG)
    clear hG
    go_enter Tryz.func27, Tryz.ntmps27
    go_wp2_with (go_at_call 20; go_must ((with_reducible refine HG.out.mono ?_); rintro e w1 ⟨rfl, hg⟩; have HG1 := Lib.hid hg; clear hg))
    exact ⟨rfl, rfl, HG1.out⟩
  | ok xs k2 =>
    have HG := Lib.hid (show Calls Tryz.prog 20 #[.pointer (some ⟨p, 0, none⟩)] w (fun e w' => ∃ v rows, e = .returned v ∧ RowDa w' w.heap.size v rows ∧ rows.map (·.1) = xs ∧ Sc w' p l k2 ∧ w.grownBy w' (some p)) from hG)
    clear hG
    go_enter Tryz.func27, Tryz.ntmps27
    go_wp2_with (go_at_call 20; go_must ((with_reducible refine HG.out.mono ?_); intro e w1 hq; obtain ⟨v, rows, rfl, hr, hm, hs, hg⟩ := hq; have HR := Lib.hid hr; have HS := Lib.hid hs; have HG1 := Lib.hid hg; have HM := Lib.hid hm; clear hr hs hg hm))
    go_ret
    exact ⟨_, rows, rfl, HR.out, HM.out, HS.out, HG1.out⟩

/-- The five cells of a segment, by its parts. -/
abbrev FiveDL (w : World) (b o : Nat) (g : Da) (a : Option Addr) (c : Nat) : Prop := w.cell? ⟨b, o, none⟩ = some (.int .u8 g.i.op.toNat) ∧ w.cell? ⟨b, o + 1, none⟩ = some (.int .u64 g.i.a) ∧ w.cell? ⟨b, o + 2, none⟩ = some (.int .u64 g.i.b) ∧ w.cell? ⟨b, o + 3, none⟩ = some (.slice a g.i.l.length c) ∧ w.cell? ⟨b, o + 4, none⟩ = some (.string (S g.bs))
/-- One of each of two lists, as a walk reads them; both lists. -/
abbrev TwoDa (w : World) (A A2 : Option Addr) (l l2 : List SlotDa) (b off b2 off2 k : Nat) (g : Da) (a1 a2 : Option Addr) (c1 c2 : Nat) (W : World) : Prop :=
  (Below w.heap.size w W ∧ Das W A l ∧ Das W A2 l2) ∧ FiveDL W b (off + k * 5) g a1 c1 ∧ FiveDL W b2 (off2 + k * 5) g a2 c2
section
variable {w W W' : World} {A A2 : Option Addr} {l l2 : List SlotDa} {b off b2 off2 k : Nat} {g : Da} {a1 a2 : Option Addr} {c1 c2 : Nat}
theorem twoDa_of (h1 : Below w.heap.size w W) (h2 : Das W A l) (h3 : Das W A2 l2) (hA : A = some ⟨b, off, none⟩) (hA2 : A2 = some ⟨b2, off2, none⟩) (hx : l[k]? = some (g, a1, c1)) (hy : l2[k]? = some (g, a2, c2)) : TwoDa w A A2 l l2 b off b2 off2 k g a1 a2 c1 c2 W := by
  obtain ⟨d1, o1, e1, _, p⟩ := h2.five hx
  obtain ⟨d2, o2, e2, _, q⟩ := h3.five hy
  rw [hA] at e1
  rw [hA2] at e2
  injection e1 with e1
  injection e2 with e2
  injection e1 with a1 a2
  injection e2 with a3 a4
  subst a1; subst a2; subst a3; subst a4
  exact ⟨⟨h1, h2, h3⟩, p, q⟩
theorem twoDa_on (h : TwoDa w A A2 l l2 b off b2 off2 k g a1 a2 c1 c2 W) (hA : A = some ⟨b, off, none⟩) (hA2 : A2 = some ⟨b2, off2, none⟩) (hx : l[k]? = some (g, a1, c1)) (hy : l2[k]? = some (g, a2, c2)) (hb : Below W.heap.size W W') : TwoDa w A A2 l l2 b off b2 off2 k g a1 a2 c1 c2 W' :=
  twoDa_of (h.1.1.trans (hb.mono h.1.1.size)) (h.1.2.1.below hb) (h.1.2.2.below hb) hA hA2 hx hy
/-- Both have one there, and these are alike. -/
theorem bothDa_at (hm : l.map (·.1) = l2.map (·.1)) (hk : k < l.length) : ∃ g a1 a2 c1 c2, l[k]? = some (g, a1, c1) ∧ l2[k]? = some (g, a2, c2) := by
  obtain ⟨⟨g, a1, c1⟩, hx⟩ : ∃ x, l[k]? = some x := ⟨_, List.getElem?_eq_getElem hk⟩
  have hk2 : k < l2.length := by have := congrArg List.length hm; rw [List.length_map, List.length_map] at this; omega
  obtain ⟨⟨g2, a2, c2⟩, hy⟩ : ∃ y, l2[k]? = some y := ⟨_, List.getElem?_eq_getElem hk2⟩
  have e := congrArg (fun l => l[k]?) hm
  simp only [List.getElem?_map, hx, hy, Option.map_some, Option.some.injEq] at e
  subst e
  exact ⟨g, a1, a2, c1, c2, hx, hy⟩
end
end Go.Proofs.YtebgmfjgapmpfabGreatDoor

/- A constant expression that was written is read: as plain functions. -/
namespace Go.Proofs.YtebgmfjgapmpfabGreatDoor
open Go.RowKit
set_option linter.unusedVariables false
set_option maxRecDepth 100000

theorem intR_at {l r : List UInt8} {k n : Nat} {x : Int} (h : l.drop k = sebL x ++ r) (h0 : -2 ^ (n - 1) ≤ x) (h1 : x < 2 ^ (n - 1)) (n1 : 1 ≤ n) (n2 : n ≤ 64) : intR l k n = .ok x (k + (sebL x).length) := by
  have m63 : (2 : Int) ^ (n - 1) ≤ 2 ^ 63 := mono2 (by omega)
  have e63 : (2 : Int) ^ 63 = 9223372036854775808 := rfl
  have hna := sebN_least x (by omega) (by omega)
  have hlen := sebL_length x
  have hnl := nums_sebL x
  obtain ⟨p, c, he, hg, hx, c0, c1, hf, hp⟩ := least_s h0 h1 n1 n2 hna
  rw [he] at hlen hnl
  have hd : (nums l).drop k = grps x p ++ c :: nums r := by
    have : (nums l).drop k = nums (l.drop k) := by unfold nums; rw [List.map_drop]
    rw [this, h, nums_append, hnl, ← he, hg]
    simp
  have hq : onN l k n = p := by
    have := onN_stop l k n
    rw [hd] at this
    exact this.unique (grps_stop x p _ c _ c1 (by omega))
  unfold intR
  rw [if_pos ⟨n1, n2⟩, hq, if_neg (by omega), hd, grps_at]
  simp only
  rw [if_pos hf, grps_take, hlen]
  have e : numS (grps x p) c = x := by unfold numS; rw [low_grps, grps_length]; exact hx
  rw [e]
theorem getR_c {l r : List UInt8} {k : Nat} {i : I} (oi : i.Ok) (h0 : crightZ i = 0) (h : l.drop k = putL i ++ r) : getR l k = .ok i (k + (putL i).length) := by
  obtain ⟨hr, hc⟩ := cr_zero h0
  have hl := cz_nil h0
  obtain ⟨hc0, _, _, hb8, hz0⟩ := right_zero hr
  obtain ⟨a0, a1, b0, b1, _⟩ := oi
  obtain ⟨_, _, hz3⟩ := nums_zero hz0 a0
  obtain ⟨m, hm⟩ : ∃ m, m = immR i.n := ⟨_, rfl⟩
  have hm3 : m = 7 ∨ m = 10 ∨ m = 11 := by
    rw [hm]
    rcases hc with e | e | e
    all_goals rw [show i.n = _ from e]; decide +kernel
  rw [← hm] at hb8 hz3
  have hb : i.b = 0 := by omega
  have hp1 : putL i = i.op :: immB m i := by unfold putL immL; rw [hm]
  rw [hp1, List.cons_append] at h
  have hd1 : l.drop (k + 1) = immB m i ++ r := drop_past (a := [i.op]) h
  have hop : opR l k = .ok i.op (k + 1) := by unfold opR; rw [byteR_at h, Res.bind_ok, if_pos hc0]
  unfold getR
  rw [hop, Res.bind_ok]
  rw [show immR i.op.toNat = m from hm.symm, hp1, show k + (i.op :: immB m i).length = k + 1 + (immB m i).length by rw [List.length_cons]; omega]
  clear hm hop hp1 h hr hc hc0 hz0 h0
  obtain ⟨o, a, b, ls⟩ := i
  simp only at hl hb a0 a1 hz3 hd1 ⊢
  subst hl
  subst hb
  rcases hm3 with rfl | rfl | rfl
  · have himm : immB 7 ⟨o, a, 0, []⟩ = lebL a := by simp [immB]
    rw [himm] at hd1 ⊢
    have hbd : bodyR 7 o l (k + 1) = (indexR l (k + 1)).bind fun a k1 => .ok ⟨o, a, 0, []⟩ k1 := by simp [bodyR]
    rw [hbd, indexR_at hd1 a0 (by have := (hz3 (by omega)).1; omega), Res.bind_ok]
  · have himm : immB 10 ⟨o, a, 0, []⟩ = sebL (s32 a) := by simp [immB]
    rw [himm] at hd1 ⊢
    have ha := (hz3 (by omega)).1
    have hbd : bodyR 10 o l (k + 1) = (intR l (k + 1) 32).bind fun v k1 => .ok ⟨o, v % 4294967296, 0, []⟩ k1 := by simp [bodyR]
    rw [hbd, intR_at hd1 (show -2147483648 ≤ s32 a by unfold s32; omega) (show s32 a < 2147483648 by unfold s32; omega) (by omega) (by omega), Res.bind_ok, show s32 a % 4294967296 = a by unfold s32; omega]
  · have himm : immB 11 ⟨o, a, 0, []⟩ = sebL (s64 a) := by simp [immB]
    rw [himm] at hd1 ⊢
    have hbd : bodyR 11 o l (k + 1) = (intR l (k + 1) 64).bind fun v k1 => .ok ⟨o, v % 18446744073709551616, 0, []⟩ k1 := by simp [bodyR]
    rw [hbd, intR_at hd1 (show -9223372036854775808 ≤ s64 a by unfold s64; omega) (show s64 a < 9223372036854775808 by unfold s64; omega) (by omega) (by omega), Res.bind_ok, show s64 a % 18446744073709551616 = a by unfold s64; omega]
theorem readR_at {l r : List UInt8} {k : Nat} {i : I} (oi : i.Ok) (h0 : crightZ i = 0) (h : l.drop k = cputL i ++ r) : readR l k = .ok i (k + (cputL i).length) := by
  have hd : l.drop k = putL i ++ (11 :: r) := by rw [h]; unfold cputL; simp
  have hg := getR_c oi h0 hd
  have hd2 := drop_past hd
  unfold readR
  rw [hg, Res.bind_ok, if_pos h0, byteR_at hd2, Res.bind_ok, if_pos rfl]
  unfold cputL
  rw [List.length_append, List.length_singleton, Nat.add_assoc]
end Go.Proofs.YtebgmfjgapmpfabGreatDoor

/- A segment that was written is read. -/
namespace Go.Proofs.YtebgmfjgapmpfabGreatDoor
open Go.RowKit
set_option linter.unusedVariables false
set_option maxRecDepth 100000

theorem elR_at {l r : List UInt8} {k : Nat} {x : El} (oi : x.i.Ok) (h0 : crightZ x.i = 0) (hc : ∀ c ∈ x.fs, 0 ≤ c ∧ c ≤ 4294967295) (hn : x.fs.length ≤ 100) (h : l.drop k = eputL x ++ r) : elR l k = .ok x (k + (eputL x).length) := by
  have hd : l.drop k = 0 :: (cputL x.i ++ (labL x.fs ++ r)) := by rw [h]; unfold eputL; simp [List.append_assoc]
  have hd1 : l.drop (k + 1) = cputL x.i ++ (labL x.fs ++ r) := drop_past (a := [0]) hd
  have hd2 := drop_past hd1
  have hh : headR l k = .ok x.i (k + 1 + (cputL x.i).length) := by
    unfold headR noughtR
    rw [byteR_at hd, Res.bind_ok, if_pos rfl, Res.bind_ok, readR_at oi h0 hd1]
  unfold elR
  rw [hh, Res.bind_ok, labelsR_at hd2 (by omega) hc, Res.bind_ok]
  unfold eputL
  rw [List.length_append, List.length_cons]
  congr 1
  omega
theorem headR_nz {l : List UInt8} {k : Nat} {c a : Int} (h : headR l k = .err c a) : c ≠ 0 := by
  unfold headR at h
  exact bind_nz h (fun _ _ => noughtR_nz) (fun _ _ _ _ h => readR_err h)
theorem elR_nz {l : List UInt8} {k : Nat} {c a : Int} (h : elR l k = .err c a) : c ≠ 0 := by
  unfold elR at h
  exact bind_nz h (fun _ _ => headR_nz) (fun _ _ _ _ h => bind_nz h (fun _ _ => labelsR_nz) (fun _ _ _ _ h => by cases h))
/-- What was read has no labels, and no more than 10000 functions. -/
theorem elR_nil {l : List UInt8} {k : Nat} {x : El} {k' : Nat} (h : elR l k = .ok x k') : x.i.l = [] ∧ x.fs.length ≤ 100000 := by
  unfold elR at h
  cases hh : headR l k with
  | err c a => rw [hh, Res.bind_err] at h; cases h
  | ok i k1 =>
    rw [hh, Res.bind_ok] at h
    cases hl : labelsR l k1 with
    | err c a => rw [hl, Res.bind_err] at h; cases h
    | ok fs k2 =>
      rw [hl, Res.bind_ok] at h
      injection h with h1 h2
      subst h1
      have hn := (labelsR_ok hl).2.1
      refine ⟨?_, by show fs.length ≤ _; omega⟩
      unfold headR at hh
      cases hr : noughtR l k with
      | err c a => rw [hr, Res.bind_err] at hh; cases hh
      | ok u k3 =>
        rw [hr, Res.bind_ok] at hh
        exact readR_nil hh
end Go.Proofs.YtebgmfjgapmpfabGreatDoor

/- A data segment that was written is read; what is read. -/
namespace Go.Proofs.YtebgmfjgapmpfabGreatDoor
open Go.RowKit
set_option linter.unusedVariables false
set_option maxRecDepth 100000

theorem contR_at {l s r : List UInt8} {k : Nat} (h : l.drop k = szL s ++ r) (hs : s.length ≤ 100000) : ∃ k2, contR l k = .ok s.length k2 ∧ (l.drop k2).take s.length = s ∧ k2 + s.length = k + (szL s).length := by
  unfold szL at h ⊢
  rw [List.append_assoc] at h
  have m1 := lebL_len (s.length : Int) (by omega)
  have hd := drop_past h
  have e2 := congrArg List.length hd
  simp only [List.length_drop, List.length_append] at e2
  refine ⟨k + (lebL (s.length : Int)).length, ?_, by rw [hd, List.take_left], by rw [List.length_append]; omega⟩
  have e1 := congrArg List.length h
  simp only [List.length_drop, List.length_append] at e1
  unfold contR
  rw [indexR_at h (by omega) (by omega), Res.bind_ok, Int.toNat_natCast, if_pos (by omega)]
theorem daR_at {l r : List UInt8} {k : Nat} {x : Da} (oi : x.i.Ok) (h0 : crightZ x.i = 0) (hn : x.bs.length ≤ 200) (h : l.drop k = dputL x ++ r) : daR l k = .ok x (k + (dputL x).length) := by
  have hd : l.drop k = 0 :: (cputL x.i ++ (szL x.bs ++ r)) := by rw [h]; unfold dputL; simp [List.append_assoc]
  have hd1 : l.drop (k + 1) = cputL x.i ++ (szL x.bs ++ r) := drop_past (a := [0]) hd
  have hd2 := drop_past hd1
  have hh : headR l k = .ok x.i (k + 1 + (cputL x.i).length) := by
    unfold headR noughtR
    rw [byteR_at hd, Res.bind_ok, if_pos rfl, Res.bind_ok, readR_at oi h0 hd1]
  obtain ⟨k2, hc, ht, hk⟩ := contR_at hd2 (by omega)
  unfold daR
  rw [hh, Res.bind_ok, hc, Res.bind_ok, ht, hk]
  unfold dputL
  rw [List.length_append, List.length_cons]
  congr 1
  omega
theorem daR_nz {l : List UInt8} {k : Nat} {c a : Int} (h : daR l k = .err c a) : c ≠ 0 := by
  unfold daR at h
  exact bind_nz h (fun _ _ => headR_nz) (fun _ _ _ _ h => bind_nz h (fun _ _ => contR_err) (fun _ _ _ _ h => by cases h))
/-- What was read has no labels. -/
theorem daR_nil {l : List UInt8} {k : Nat} {x : Da} {k' : Nat} (h : daR l k = .ok x k') : x.i.l = [] := by
  unfold daR at h
  cases hh : headR l k with
  | err c a => rw [hh, Res.bind_err] at h; cases h
  | ok i k1 =>
    rw [hh, Res.bind_ok] at h
    cases hl : contR l k1 with
    | err c a => rw [hl, Res.bind_err] at h; cases h
    | ok n k2 =>
      rw [hl, Res.bind_ok] at h
      injection h with h1 h2
      subst h1
      unfold headR at hh
      cases hr : noughtR l k with
      | err c a => rw [hr, Res.bind_err] at hh; cases hh
      | ok u k3 =>
        rw [hr, Res.bind_ok] at hh
        exact readR_nil hh
end Go.Proofs.YtebgmfjgapmpfabGreatDoor

/- The walk of DatasReads. -/
namespace Go.Proofs.YtebgmfjgapmpfabGreatDoor
open Go.RowKit
set_option linter.unusedVariables false
set_option maxRecDepth 100000

theorem valueDaR_err {w : World} {p q : Nat} {ms : List UInt8} {M : Option Addr} {cm : Nat} {W : World} {c a : Int} (h : LR w p q ms M cm W) (hc : ¬ c = 0) (hr : dasR ms 0 = .err c a) (hl : ms.length ≤ 1000000) :
    Calls Tryz.prog 18 #[.func (.func 19) #[] #[.pointer (some ⟨q + 1, 0, none⟩)]] W fun e w' => e = .returned (.tuple #[.slice none 0 0, .agg #[.int .i64 c, .int .i64 a]]) ∧ W.grownBy w' (some p) := by
  have h1 := h.pq
  have h2 := h.qz
  exact valueDasE_any hc (cfDa3 _) (by omega) (fun W' hW hz => by
    have := closDa3 (h.vr.below hW) (h.sc.below hW) (h.tb.below hW (by omega)) hl
    rw [hr] at this
    exact this)
/-- What is kept of the list that was read. -/
def KeepDa (base N : Nat) (xs : List Da) (v : Option Addr × Nat × Nat) (W : World) : Prop := v.2.1 = N ∧ ∃ rows, RowDa W base (.slice v.1 N v.2.2) rows ∧ rows.map (·.1) = xs
theorem valueDaR_ok {w : World} {p q : Nat} {ms : List UInt8} {M : Option Addr} {cm : Nat} {W : World} {xs : List Da} {k N : Nat} (h : LR w p q ms M cm W) (hr : dasR ms 0 = .ok xs k) (hN : xs.length = N) (hl : ms.length ≤ 1000000) :
    Calls Tryz.prog 18 #[.func (.func 19) #[] #[.pointer (some ⟨q + 1, 0, none⟩)]] W fun e w' => ∃ v : Option Addr × Nat × Nat, e = .returned (.tuple #[.slice v.1 v.2.1 v.2.2, .agg #[.int .i64 0, .int .i64 0]]) ∧ KeepDa (W.heap.size + 4) N xs v w' ∧ W.grownBy w' (some p) := by
  have h1 := h.pq
  have h2 := h.qz
  refine valueDas_ok (cfDa3 _) (by omega) (fun v W1 W2 b g1 g2 hx hg => ?_) (fun W' hW hz => ?_)
  · obtain ⟨e1, rows, e2, e3⟩ := hx
    exact ⟨e1, rows, e2.past hg (by omega), e3⟩
  · have := closDa3 (h.vr.below hW) (h.sc.below hW) (h.tb.below hW (by omega)) hl
    rw [hr] at this
    refine this.mono ?_
    rintro e w' ⟨v, rows, rfl, hr, hm, hs, hg⟩
    obtain ⟨A, c, rfl⟩ := hr.slice
    have hl : rows.length = N := by rw [← hN, ← hm, List.length_map]
    rw [hl] at hr ⊢
    exact ⟨(A, N, c), rfl, ⟨rfl, rows, hr.mono hz, hm⟩, hg⟩
theorem dasR_err {l : List UInt8} {k : Nat} {c a : Int} (h : dasR l k = .err c a) : ¬ c = 0 := by
  have hg : ∀ (n q : Nat) (acc : List Da) (c a : Int), dasK l n q acc = .err c a → c ≠ 0 := by
    intro n
    induction n with
    | zero => intro q acc c a h; cases h
    | succ n ih =>
      intro q acc c a h
      unfold dasK at h
      exact bind_nz h (fun c a h => daR_nz h) (fun x k2 c a h => ih _ _ c a h)
  unfold dasR at h
  refine bind_nz h (fun c a h => ?_) (fun n k1 c a h => bind_nz h (fun c a h => hg _ _ _ c a h) (fun xs k2 c a h => ?_))
  · unfold countR atMostR at h
    refine bind_nz h (fun _ _ => indexR_nz) (fun v k2 c a h => ?_)
    split at h
    · cases h
    · injection h with h1 h2; omega
  · split at h
    · injection h with h1 h2; omega
    · cases h
/-- What was read has no labels. -/
theorem dasR_nil {l : List UInt8} {k : Nat} {xs : List Da} {k' : Nat} (h : dasR l k = .ok xs k') : ∀ x ∈ xs, x.i.l = [] := by
  have hg : ∀ (n q : Nat) (acc xs : List Da) (k' : Nat), (∀ x ∈ acc, x.i.l = []) → dasK l n q acc = .ok xs k' → ∀ x ∈ xs, x.i.l = [] := by
    intro n
    induction n with
    | zero => intro q acc xs k' ha h; injection h with h1 h2; subst h1; exact ha
    | succ n ih =>
      intro q acc xs k' ha h
      unfold dasK at h
      cases hx : daR l q with
      | err c a => rw [hx, Res.bind_err] at h; cases h
      | ok x q2 =>
        rw [hx, Res.bind_ok] at h
        refine ih _ _ xs k' (fun y hy => ?_) h
        rcases List.mem_append.1 hy with hy | hy
        · exact ha y hy
        · rw [List.mem_singleton] at hy
          subst hy
          exact daR_nil hx
  unfold dasR at h
  cases hc : countR l k with
  | err c a => rw [hc, Res.bind_err] at h; cases h
  | ok n k1 =>
    rw [hc, Res.bind_ok] at h
    cases hs : dasK l n.toNat k1 [] with
    | err c a => rw [hs, Res.bind_err] at h; cases h
    | ok ys k2 =>
      rw [hs, Res.bind_ok] at h
      split at h
      · cases h
      · injection h with h1 h2
        subst h1
        exact hg _ _ _ _ _ (fun x hx => by cases hx) hs

theorem dasR_len {l : List UInt8} {k : Nat} {xs : List Da} {k' : Nat} (h : dasR l k = .ok xs k') : xs.length ≤ 10000 := by
  have hg : ∀ (n q : Nat) (acc xs : List Da) (k' : Nat), dasK l n q acc = .ok xs k' → xs.length = acc.length + n := by
    intro n
    induction n with
    | zero => intro q acc xs k' h; injection h with h1 h2; subst h1; rfl
    | succ n ih =>
      intro q acc xs k' h
      unfold dasK at h
      cases hx : daR l q with
      | err c a => rw [hx, Res.bind_err] at h; cases h
      | ok x q2 =>
        rw [hx, Res.bind_ok] at h
        have := ih _ _ xs k' h
        rw [List.length_append, List.length_singleton] at this
        omega
  unfold dasR at h
  cases hc : countR l k with
  | err c a => rw [hc, Res.bind_err] at h; cases h
  | ok n k1 =>
    obtain ⟨v0, v1⟩ := countR_ok hc
    rw [hc, Res.bind_ok] at h
    cases hs : dasK l n.toNat k1 [] with
    | err c a => rw [hs, Res.bind_err] at h; cases h
    | ok ys k2 =>
      rw [hs, Res.bind_ok] at h
      split at h
      · cases h
      · injection h with h1 h2
        subst h1
        have := hg _ _ _ _ _ hs
        simp at this
        omega
set_option maxHeartbeats 8000000 in
theorem lawDaR {w : World} {M : Option Addr} {cm : Nat} {ms : List UInt8} (hT : Tabs w) (hm : Lies w w.heap.size M (cells (nums ms))) (hM : M = none → cm = 0) (hc : ms.length ≤ cm) (hx : cm ≤ maxLen) :
    Calls Tryz.prog 4 #[.slice M ms.length cm] w (BoolPost true w) := by
  have nm : (ms.length : Int) ≤ 9223372036854775807 := by unfold maxLen at hx; omega
  have HAW := Lib.hid (daawake_any w hT)
  by_cases g1 : 600 < ms.length
  · have t1 : decide (600 < (ms.length : Int)) = true := decide_eq_true (by omega)
    clear hm hT hx
    go_enter Tryz.func4, Tryz.ntmps4
    go_wp2_with (go_at_call 17; go_must ((with_reducible refine HAW.out.mono ?_); rintro e w1 ⟨rfl, hb⟩; have HB1 := Lib.hid hb; clear hb))
    go_ret
    exact ⟨rfl, HB1.out⟩
  have t1 : decide (600 < (ms.length : Int)) = false := decide_eq_false (by omega)
  have hl6 : ms.length ≤ 1000000 := by omega
  have hmf : ∀ (fn : Fn) (first cap : Array Value) (w : World), (Instr.makeFunc fn first cap).run Tryz.prog w = .ok (.func fn first cap) w := fun _ _ _ _ => rfl
  have HO := Lib.hid (fun W (hb : Below w.heap.size w W) => over_any (cap := cm) ((hm.below hb (Nat.le_refl _)).more hb.size) hM (by omega))
  have HT := Lib.hid hT
  have HM := Lib.hid hm
  have HC := Lib.hid hc
  have HX := Lib.hid hx
  clear hT hm hM hc hx g1
  cases hr : dasR ms 0 with
  | err c a =>
    have HRF := Lib.hid (fun W q (h : Rs W q ms (.at 0)) => show Calls Tryz.prog 21 #[.pointer (some ⟨q, 0, none⟩)] W fun e w' => e = .returned (.slice none 0 0) ∧ Rs w' q ms (.bad c a) ∧ W.grownBy w' (some q) from by have := rgetall_da h; rw [hr] at this; exact this)
    have hne : ¬ c = 0 := dasR_err hr
    have dw : (c != 0) = true := by simpa using hne
    have HNE := Lib.hid hne
    have HRR := Lib.hid hr
    clear hr hne
    go_enter Tryz.func4, Tryz.ntmps4
    go_wp2_with (first
      | (go_at_call 17; go_must ((with_reducible refine HAW.out.mono ?_); rintro e w1 ⟨rfl, hb⟩; have HB1 := Lib.hid hb; clear hb))
      | (go_at_call 12; go_must ((with_reducible refine (HO.out _ HB1.out).mono ?_); intro e w2 hq; obtain ⟨p, rfl, hp, hs, hb⟩ := hq; have H3 := Lib.hid (LR.of (M := M) (cm := cm) (HT.out.below HB1.out) HB1.out hb hp hs); clear hp hs hb))
      | (go_at_call 18; go_must ((with_reducible refine (valueDaR_err H3.out HNE.out HRR.out hl6).mono ?_); rintro e w4 ⟨rfl, hg⟩; have H4 := Lib.hid hg; have H5 := Lib.hid (H3.out.ref1 hg HM.out HC.out HX.out (.cells #[.int .i64 c, .int .i64 a] 39)); clear hg))
      | (go_at_call 21; go_must ((with_reducible refine (HRF.out _ _ H5.out.1).mono ?_); rintro e w6 ⟨rfl, hs, hg⟩; have hst := (Whole.made w4 39 #[.int .i64 c, .int .i64 a]).grown hg (by have := H3.out.pq; have := H3.out.qz; have := H4.out.size; simp only [ne_eq, Option.some.injEq]; omega); have s0 := hst.cell 0; have s1 := hst.cell 1; simp only [List.getElem?_toArray, List.getElem?_cons_zero, List.getElem?_cons_succ] at s0 s1; have r2 := hs.cells.1; have r3 : w6.cell? ⟨w2.heap.size, 3, none⟩ = some (.int .i64 a) := (by obtain ⟨_, _, _, hw, _⟩ := hs; exact hw.cell 3); rw [show (RSt.bad c a).why = c from rfl] at r2; have hb6 : Below w.heap.size w w6 := Below.grown H5.out.2 hg H5.out.2.size (fun g e => by have := H3.out.pq; have := H3.out.lo; injection e with e; omega); have HB6 := Lib.hid hb6; clear hs hg hst hb6)))
    go_quiet (fail)
    go_wp2
    go_ret
    exact ⟨rfl, below_drewN HB6.out _⟩
  | ok xs k =>
    obtain ⟨N, hN⟩ : ∃ N, N = xs.length := ⟨_, rfl⟩
    have HRF := Lib.hid (fun W q (h : Rs W q ms (.at 0)) => show Calls Tryz.prog 21 #[.pointer (some ⟨q, 0, none⟩)] W fun e w' => ∃ A c rows, e = .returned (.slice A N c) ∧ RowDa w' W.heap.size (.slice A N c) rows ∧ rows.map (·.1) = xs ∧ Rs w' q ms (.at k) ∧ W.grownBy w' (some q) from by
      have := rgetall_da h
      rw [hr] at this
      refine this.mono ?_
      rintro e w' ⟨v, rows, rfl, h1, h2, h3, h4⟩
      obtain ⟨A, c, rfl⟩ := h1.slice
      have hl : rows.length = N := by rw [hN, ← h2, List.length_map]
      rw [hl] at h1 ⊢
      exact ⟨A, c, rows, rfl, h1, h2, h3, h4⟩)
    have HNL := Lib.hid (dasR_nil hr)
    have HSM := Lib.hid (fun W (g : Da) (A2 A3 : Option Addr) (c2 c3 : Nat) (h : g.i.l = []) => rsame_da (w := W) (x := g) (A := A2) (B := A3) (c := c2) (d := c3) h)
    have HRR := Lib.hid hr
    have HN := Lib.hid hN
    have n63 : N ≤ 10000 := by rw [hN]; exact dasR_len hr
    clear hr hN
    go_enter Tryz.func4, Tryz.ntmps4
    go_wp2_with (first
      | (go_at_call 17; go_must ((with_reducible refine HAW.out.mono ?_); rintro e w1 ⟨rfl, hb⟩; have HB1 := Lib.hid hb; clear hb))
      | (go_at_call 12; go_must ((with_reducible refine (HO.out _ HB1.out).mono ?_); intro e w2 hq; obtain ⟨p, rfl, hp, hs, hb⟩ := hq; have H3 := Lib.hid (LR.of (M := M) (cm := cm) (HT.out.below HB1.out) HB1.out hb hp hs); clear hp hs hb))
      | (go_at_call 18; go_must ((with_reducible refine (valueDaR_ok H3.out HRR.out HN.out.symm hl6).mono ?_); rintro e w4 ⟨⟨A2, n2, c2⟩, rfl, ⟨hn, rows, hr, hm⟩, hg⟩; obtain rfl : n2 = N := hn; have H4 := Lib.hid hg; have HR4 := Lib.hid hr; have HM4 := Lib.hid hm; have H5 := Lib.hid (H3.out.ref1 hg HM.out HC.out HX.out (.cells #[.int .i64 0, .int .i64 0] 39)); clear hg hr hm))
      | (go_at_call 21; go_must ((with_reducible refine (HRF.out _ _ H5.out.1).mono ?_); rintro e w6 ⟨A3, c3, rows3, rfl, hr3, hm3, hs, hg⟩; have hst := (Whole.made w4 39 #[.int .i64 0, .int .i64 0]).grown hg (by have := H3.out.pq; have := H3.out.qz; have := H4.out.size; simp only [ne_eq, Option.some.injEq]; omega); have s0 := hst.cell 0; simp only [List.getElem?_toArray, List.getElem?_cons_zero] at s0; have x2 := why_at hs; have HB6 := Lib.hid (show Below w.heap.size w w6 from Below.grown H5.out.2 hg H5.out.2.size (fun g e => by have := H3.out.pq; have := H3.out.lo; injection e with e; omega)); have HI := Lib.hid ((HR4.out.alloc (.cells #[.int .i64 0, .int .i64 0] 39)).past hg (by have := H3.out.qz; omega)).das; have HJ := Lib.hid hr3.das; have HM3 := Lib.hid hm3; clear hs hg hst hr3 hm3)))
    go_loopw [8] (fun i wr => ∃ j : Nat, j ≤ n2 ∧ i = .int .i64 j ∧ Below w.heap.size w wr ∧ Das wr A2 rows ∧ Das wr A3 rows3) (fun i _ => n2 - (intOf i).toNat)
    case atStart => exact ⟨0, Nat.zero_le _, rfl, HB6.out, HI.out, HJ.out⟩
    case round =>
      obtain ⟨j, hj, rfl, hb, hi, hjj⟩ := hrel
      by_cases hlt : j < n2
      · have hlen : rows.length = n2 := by rw [HN.out, ← HM4.out, List.length_map]
        obtain ⟨g, a1, a2, d1, d2, hx, hy⟩ := bothDa_at (HM4.out.trans HM3.out.symm) (by omega : j < rows.length)
        have hgn : g.i.l = [] := HNL.out g (by rw [← HM4.out]; exact List.mem_map.2 ⟨_, List.mem_of_getElem? hx, rfl⟩)
        obtain ⟨b, off, hA, _⟩ := hi.five hx
        obtain ⟨b2, off2, hA2, _⟩ := hjj.five hy
        have hS0 := twoDa_of hb hi hjj hA hA2 hx hy
        have HS0 := Lib.hid (twoDa_on hS0 hA hA2 hx hy (Below.refl _ _).drew)
        have HON := Lib.hid (fun W W' (h : TwoDa w A2 A3 rows rows3 b off b2 off2 j g a1 a2 d1 d2 W) (hb : Below W.heap.size W W') => twoDa_on h hA hA2 hx hy hb)
        have HSg := Lib.hid (fun W => HSM.out W g a1 a2 d1 d2 hgn)
        subst hA; subst hA2
        clear hx hy hb hi hjj hS0 hgn hlen
        go_upto_region 15 with fail
        refine wp_region_noPanic ?_
        refine wp_region_held_drew (S := fun W => TwoDa w (some ⟨b, off, none⟩) (some ⟨b2, off2, none⟩) rows rows3 b off b2 off2 j g a1 a2 d1 d2 W) (by kernel_rfl) HS0.out (fun hHeld => ?_)
        (refine heldTake (i := 0) (oi := { dst := some 68, op := Op.move (Operand.tmp 5), type := 49, pos := "law.go:59", after := #[], guard := none }) (v := ?_) rfl (by kernel_rfl) (by kernel_rfl) (by kernel_rfl) (by assumption) ?_ ?_; rotate_left; focus (refine .inl ⟨by kernel_rfl, ?_⟩; intro w hSw; (try dsimp only at hSw); go_simp; (try with_reducible rfl)); (try simp only [Act.put, List.setIfInBounds_toArray, List.set_cons_zero, List.set_cons_succ]))
        (refine heldTake (i := 1) (oi := { dst := some 69, op := Op.move (Operand.tmp 8), type := 3, pos := "law.go:59", after := #[], guard := none }) (v := ?_) rfl (by kernel_rfl) (by kernel_rfl) (by kernel_rfl) (by assumption) ?_ ?_; rotate_left; focus (refine .inl ⟨by kernel_rfl, ?_⟩; intro w hSw; (try dsimp only at hSw); go_simp; (try with_reducible rfl)); (try simp only [Act.put, List.setIfInBounds_toArray, List.set_cons_zero, List.set_cons_succ]))
        (refine heldTake (i := 2) (oi := { dst := some 70, op := Op.indexAddr 49 (Operand.tmp 68) (Operand.tmp 69), type := 0, pos := "law.go:59", after := #[{ on := 0, ground := Ground.data }, { on := 1, ground := Ground.data }], guard := none }) (v := ?_) rfl (by kernel_rfl) (by kernel_rfl) (by kernel_rfl) (by assumption) ?_ ?_; rotate_left; focus (refine .inl ⟨by kernel_rfl, ?_⟩; intro w hSw; (try dsimp only at hSw); go_simp; (try with_reducible rfl)); (try simp only [Act.put, List.setIfInBounds_toArray, List.set_cons_zero, List.set_cons_succ]))
        (refine heldTake (i := 3) (oi := { dst := some 71, op := Op.load 61 (Operand.tmp 70), type := 61, pos := "law.go:59", after := #[{ on := 2, ground := Ground.data }], guard := none }) (v := ?_) rfl (by kernel_rfl) (by kernel_rfl) (by kernel_rfl) (by assumption) ?_ ?_; rotate_left; focus (refine .inl ⟨by kernel_rfl, ?_⟩; intro w hSw; (try dsimp only at hSw); go_simp; (try with_reducible rfl)); (try simp only [Act.put, List.setIfInBounds_toArray, List.set_cons_zero, List.set_cons_succ]))
        (refine heldTake (i := 4) (oi := { dst := some 72, op := Op.move (Operand.tmp 7), type := 49, pos := "law.go:59", after := #[], guard := none }) (v := ?_) rfl (by kernel_rfl) (by kernel_rfl) (by kernel_rfl) (by assumption) ?_ ?_; rotate_left; focus (refine .inl ⟨by kernel_rfl, ?_⟩; intro w hSw; (try dsimp only at hSw); go_simp; (try with_reducible rfl)); (try simp only [Act.put, List.setIfInBounds_toArray, List.set_cons_zero, List.set_cons_succ]))
        (refine heldTake (i := 5) (oi := { dst := some 73, op := Op.move (Operand.tmp 8), type := 3, pos := "law.go:59", after := #[], guard := none }) (v := ?_) rfl (by kernel_rfl) (by kernel_rfl) (by kernel_rfl) (by assumption) ?_ ?_; rotate_left; focus (refine .inl ⟨by kernel_rfl, ?_⟩; intro w hSw; (try dsimp only at hSw); go_simp; (try with_reducible rfl)); (try simp only [Act.put, List.setIfInBounds_toArray, List.set_cons_zero, List.set_cons_succ]))
        (refine heldTake (i := 6) (oi := { dst := some 74, op := Op.indexAddr 49 (Operand.tmp 72) (Operand.tmp 73), type := 0, pos := "law.go:59", after := #[{ on := 4, ground := Ground.data }, { on := 5, ground := Ground.data }], guard := none }) (v := ?_) rfl (by kernel_rfl) (by kernel_rfl) (by kernel_rfl) (by assumption) ?_ ?_; rotate_left; focus (refine .inl ⟨by kernel_rfl, ?_⟩; intro w hSw; (try dsimp only at hSw); go_simp; (try with_reducible rfl)); (try simp only [Act.put, List.setIfInBounds_toArray, List.set_cons_zero, List.set_cons_succ]))
        (refine heldTake (i := 7) (oi := { dst := some 75, op := Op.load 61 (Operand.tmp 74), type := 61, pos := "law.go:59", after := #[{ on := 6, ground := Ground.data }], guard := none }) (v := ?_) rfl (by kernel_rfl) (by kernel_rfl) (by kernel_rfl) (by assumption) ?_ ?_; rotate_left; focus (refine .inl ⟨by kernel_rfl, ?_⟩; intro w hSw; (try dsimp only at hSw); go_simp; (try with_reducible rfl)); (try simp only [Act.put, List.setIfInBounds_toArray, List.set_cons_zero, List.set_cons_succ]))
        refine wpAnyH_ready (rs := [8]) (by kernel_rfl) (by simp) ?_
        refine AllReadyH.cons (o := { dst := some 76, op := Op.call { callee := Callee.value (Operand.func 22), args := #[Operand.tmp 71, Operand.tmp 75], argTypes := #[61, 61] }, type := 4, pos := "law.go:59", after := #[{ on := 3, ground := Ground.data }, { on := 7, ground := Ground.data }], guard := none }) rfl (fun K hK => ?_) AllReadyH.nil
        go_simp
        (go_at_call 22; (with_reducible refine (HSg.out _).mono ?_); rintro e w11 ⟨rfl, hb⟩; have hk11 := HON.out _ _ hHeld hb; clear hb)
        refine hK.out _ _ hk11 (fun hHeld8 => ?_)
        clear hK K hHeld
        (try simp only [Act.put, List.setIfInBounds_toArray, List.set_cons_zero, List.set_cons_succ])
        (refine heldTake (i := 9) (oi := { dst := some 77, op := Op.unOp UnOp.not 4 (Operand.tmp 76), type := 4, pos := "law.go:59", after := #[{ on := 8, ground := Ground.data }], guard := none }) (v := ?_) rfl (by kernel_rfl) (by kernel_rfl) (by kernel_rfl) (by assumption) ?_ ?_; rotate_left; focus (refine .inl ⟨by kernel_rfl, ?_⟩; intro w hSw; (try dsimp only at hSw); go_simp; (try with_reducible rfl)); (try simp only [Act.put, List.setIfInBounds_toArray, List.set_cons_zero, List.set_cons_succ]))
        refine wpAnyH_done (by kernel_rfl) ?_ _
        refine NoPanic.normal ?_
        have hLast := hHeld8
        clear hHeld8
        obtain ⟨⟨hb3, hi3, hj3⟩, _⟩ := hLast
        have HB3 := Lib.hid hb3
        have HI3 := Lib.hid hi3
        have HJ3 := Lib.hid hj3
        clear hb3 hi3 hj3
        go_wp2
        go_roundw
        case rel => exact ⟨j + 1, by omega, by go_num, HB3.out, HI3.out, HJ3.out⟩
        case measure => simp [intOf]; omega
      · obtain rfl : j = n2 := by omega
        have HB3 := Lib.hid hb
        clear hb hi hjj
        go_wp2
        go_ret
        exact ⟨rfl, HB3.out⟩
end Go.Proofs.YtebgmfjgapmpfabGreatDoor
