/- Small laws on memory: blocks known whole, worlds that grow, for every program. -/
import Derived.Test.YtohliaellefhaaaDoorRows
import Derived.WalkKit
import Derived.Laws.OwnMore
import Derived.Laws.Rows
import Derived.Deep.Draws
import Derived.WalkLawsBesides
import Derived.Defers
import Derived.Recover
import Derived.Lib.Hide
import Derived.Laws.BytesArg
import Derived.Laws.Strings
import Derived.Laws.BytesString
import Derived.LoopTactic
import Derived.OwnWalk
import Derived.Deep.AppendLies
import Derived.KernelRfl
import Derived.Lib.AppendStr
namespace Go.Proofs.YtohliaellefhaaaDoor
set_option linter.unusedVariables false
open Go.RowKit

/-- Block g is the cells cs of element type t, all of them writable. -/
def Whole (w : World) (g : Nat) (t : TypeId) (cs : Array Value) : Prop := w.heap[g]? = some (.cells cs t (0, 0))

theorem Whole.lt {w : World} {g : Nat} {t : TypeId} {cs : Array Value} (h : Whole w g t cs) : g < w.heap.size := by
  have h' : w.heap[g]? = some (.cells cs t (0, 0)) := h
  exact (Array.getElem?_eq_some_iff.1 h').1
theorem Whole.cell {w : World} {g : Nat} {t : TypeId} {cs : Array Value} (h : Whole w g t cs) (i : Nat) : w.cell? ⟨g, i, none⟩ = cs[i]? := cell_of_row w g i cs t (0, 0) h
theorem Whole.frozen {w : World} {g : Nat} {t : TypeId} {cs : Array Value} (h : Whole w g t cs) (i : Nat) : w.frozen? ⟨g, i, none⟩ = false := frozen_of_row w g i cs t h
theorem Whole.made (w : World) (t : TypeId) (cs : Array Value) : Whole (w.alloc (.cells cs t)) w.heap.size t cs := heap_alloc_new w _
theorem Whole.drew {w : World} {g : Nat} {t : TypeId} {cs : Array Value} (h : Whole w g t cs) : Whole w.drew g t cs := h
theorem Whole.alloc {w : World} {g : Nat} {t : TypeId} {cs : Array Value} (h : Whole w g t cs) (o : Obj) : Whole (w.alloc o) g t cs := (Below.heap_alloc w o g h.lt).trans h
theorem Whole.put {w : World} {g : Nat} {t : TypeId} {cs : Array Value} (h : Whole w g t cs) (i : Nat) (u : Value) : Whole (w.setCell ⟨g, i, none⟩ u) g t (cs.setIfInBounds i u) := by
  have h' : w.heap[g]? = some (.cells cs t (0, 0)) := h
  show (w.setCell ⟨g, i, none⟩ u).heap[g]? = _
  simp [World.setCell, Array.getElem?_modify, h']
theorem Whole.far {w : World} {g : Nat} {t : TypeId} {cs : Array Value} (h : Whole w g t cs) {p : Addr} (hp : g ≠ p.block) (u : Value) : Whole (w.setCell p u) g t cs := (heap_setCell_other w p g u hp).trans h
theorem Whole.grown {w w' : World} {g : Nat} {t : TypeId} {cs : Array Value} {row : Option Nat} (h : Whole w g t cs) (hg : w.grownBy w' row) (hr : some g ≠ row) : Whole w' g t cs := (hg.block g h.lt hr).trans h
theorem Whole.below {w w' : World} {g : Nat} {t : TypeId} {cs : Array Value} (h : Whole w g t cs) (hg : Below w.heap.size w w') : Whole w' g t cs := (hg.block g h.lt).trans h
theorem Whole.apart {w : World} {g g' : Nat} {t t' : TypeId} {cs cs' : Array Value} (h : Whole w g t cs) (h' : Whole w g' t' cs') (hne : t ≠ t') : g ≠ g' := by
  intro e
  subst e
  have e2 : some (Obj.cells cs t (0, 0)) = some (Obj.cells cs' t' (0, 0)) := h.symm.trans h'
  simp only [Option.some.injEq, Obj.cells.injEq] at e2
  exact hne e2.2.1

theorem gb_refl (w : World) (row : Option Nat) : w.grownBy w row := ⟨rfl, rfl, rfl, Nat.le_refl _, fun _ _ _ => rfl⟩
theorem gb_trans {w w1 w2 : World} {row : Option Nat} (h : w.grownBy w1 row) (k : w1.grownBy w2 row) : w.grownBy w2 row :=
  ⟨k.os.trans h.os, k.tape.trans h.tape, k.output.trans h.output, Nat.le_trans h.size k.size, fun i hi hr => (k.block i (Nat.lt_of_lt_of_le hi h.size) hr).trans (h.block i hi hr)⟩
theorem gb_any {w w1 : World} (row : Option Nat) (h : w.grownBy w1 none) : w.grownBy w1 row := ⟨h.os, h.tape, h.output, h.size, fun i hi _ => h.block i hi (by simp)⟩
theorem gb_of_below {w w1 : World} (row : Option Nat) (h : Below w.heap.size w w1) : w.grownBy w1 row := ⟨h.os, h.tape, h.output, h.size, fun i hi _ => h.block i hi⟩
theorem below_of_gb {w w1 : World} (h : w.grownBy w1 none) : Below w.heap.size w w1 := ⟨h.os, h.tape, h.output, h.size, fun i hi => h.block i hi (by simp)⟩
theorem gb_drew {w w1 : World} {row : Option Nat} (h : w.grownBy w1 row) : w.grownBy w1.drew row := ⟨h.os, h.tape, h.output, h.size, h.block⟩
theorem gb_alloc {w w1 : World} {row : Option Nat} (h : w.grownBy w1 row) (o : Obj) : w.grownBy (w1.alloc o) row :=
  gb_trans h (World.grownBy_alloc w1 o row)
/-- A store into the row that may be written, or into a new block. -/
theorem gb_put {w w1 : World} {row : Option Nat} (h : w.grownBy w1 row) {p : Addr} (hp : row = some p.block ∨ w.heap.size ≤ p.block) (u : Value) : w.grownBy (w1.setCell p u) row :=
  ⟨h.os, h.tape, h.output, by simpa using h.size, fun i hi hr => by
    have hne : i ≠ p.block := by
      intro e
      rcases hp with hp | hp
      · exact hr (by rw [hp, e])
      · omega
    exact (heap_setCell_other w1 p i u hne).trans (h.block i hi hr)⟩
/-- The row was new, or what was written before is out of sight: seen from the smaller world nothing old has turned. -/
theorem gb_new {w w1 : World} {g : Nat} (h : w.grownBy w1 (some g)) (hg : w.heap.size ≤ g) (row : Option Nat) : w.grownBy w1 row :=
  ⟨h.os, h.tape, h.output, h.size, fun i hi _ => h.block i hi (fun e => by simp only [Option.some.injEq] at e; omega)⟩
/-- Seen from the world before a block of one's own was made. -/
theorem gb_before {w w1 w2 : World} {row : Option Nat} {r2 : Option Nat} (h : w.grownBy w1 row) (k : w1.grownBy w2 r2) (hr : ∀ g, r2 = some g → row = some g ∨ w.heap.size ≤ g) : w.grownBy w2 row :=
  ⟨k.os.trans h.os, k.tape.trans h.tape, k.output.trans h.output, Nat.le_trans h.size k.size, fun i hi hne => (k.block i (Nat.lt_of_lt_of_le hi h.size) (fun e => by
    rcases hr i e.symm with e2 | e2
    · exact hne e2.symm
    · omega)).trans (h.block i hi hne)⟩
/-- Two cells of one block, both written. -/
theorem two_put {w w1 : World} {b : Nat} {t : TypeId} {x y u v : Value} (hb : Whole w b t #[x, y]) (hb1 : Below w.heap.size w w1) :
    Whole ((w1.setCell ⟨b, 0, none⟩ u).setCell ⟨b, 1, none⟩ v) b t #[u, v] ∧ w.grownBy ((w1.setCell ⟨b, 0, none⟩ u).setCell ⟨b, 1, none⟩ v) (some b) := by
  have h1 : Whole ((w1.setCell ⟨b, 0, none⟩ u).setCell ⟨b, 1, none⟩ v) b t ((#[x, y].setIfInBounds 0 u).setIfInBounds 1 v) := ((hb.below hb1).put 0 u).put 1 v
  have h2 : w.grownBy (w1.setCell ⟨b, 0, none⟩ u) (some b) := gb_put (p := ⟨b, 0, none⟩) (gb_of_below (some b) hb1) (.inl rfl) u
  have h3 : w.grownBy ((w1.setCell ⟨b, 0, none⟩ u).setCell ⟨b, 1, none⟩ v) (some b) := gb_put (p := ⟨b, 1, none⟩) h2 (.inl rfl) v
  exact ⟨h1, h3⟩
theorem ret_int {k : IntKind} {a b : Int} (h : a = b) : Ending.returned (.int k a) = .returned (.int k b) := by rw [h]
end Go.Proofs.YtohliaellefhaaaDoor

/- The contracts of package abort: Now, Unless, stopOf, call, Out. -/
namespace Go.Proofs.YtohliaellefhaaaDoor
set_option linter.unusedVariables false
open Go.RowKit

/-- The panic with which a Stop aborts. -/
def stopP (c a : Int) : List PanicEntry := [{ v := .iface 49 (.agg #[.int .i64 c, .int .i64 a]), recovered := false }]

/-- How a step ends: with code 0 it returns, else it panics with its Stop. -/
def Ended (c a : Int) (e : Ending) : Prop := (c = 0 ∧ a = 0 ∧ e = .returned (.tuple #[])) ∨ (¬ c = 0 ∧ e = .panicked (stopP c a))

theorem now_any (c a : Int) (w : World) :
    Calls Tryd.prog 44 #[.int .i64 c, .int .i64 a] w fun e w' => e = .panicked (stopP c a) ∧ w' = w := by
  go_enter Tryd.func44, Tryd.ntmps44
  go_wp2
  exact ⟨rfl, rfl, rfl⟩

theorem unless_true (c a : Int) (w : World) :
    Calls Tryd.prog 29 #[.bool true, .int .i64 c, .int .i64 a] w fun e w' => e = .returned (.tuple #[]) ∧ w' = w := by
  go_enter Tryd.func29, Tryd.ntmps29
  go_wp2_with fail
  go_end0
  exact ⟨rfl, rfl⟩

theorem unless_false (c a : Int) (w : World) :
    Calls Tryd.prog 29 #[.bool false, .int .i64 c, .int .i64 a] w fun e w' => e = .panicked (stopP c a) ∧ w' = w := by
  go_enter Tryd.func29, Tryd.ntmps29
  go_wp2_with (go_at_call 44; refine (now_any _ _ _).mono ?_; rintro e w' ⟨rfl, rfl⟩)
  exact ⟨rfl, rfl, rfl⟩

theorem stopOf_any (c a : Int) (w : World) :
    Calls Tryd.prog 58 #[.iface 49 (.agg #[.int .i64 c, .int .i64 a])] w fun e w' => e = .returned (.agg #[.int .i64 c, .int .i64 a]) ∧ Below w.heap.size w w' := by
  have hta : ∀ w : World, (Instr.typeAssert (Value.iface 49 (Value.agg #[Value.int IntKind.i64 c, Value.int IntKind.i64 a])) 20 49 true).run Tryd.prog w = .ok (.tuple #[.agg #[Value.int IntKind.i64 c, Value.int IntKind.i64 a], .bool true]) w := fun _ => by kernel_rfl
  go_enter Tryd.func58, Tryd.ntmps58
  go_wp2
  exact bodyPost_ret (v := .agg #[.int .i64 c, .int .i64 a]) (by simp [results, Tryd.results58, go_sem]) rfl ⟨rfl, ((Below.refl _ _).alloc (Nat.le_refl _) _).alloc (by simp) _⟩

theorem call_any (g : FuncId) (cap : Array Value) (w : World) (R : Ending → World → Prop) (hcf : ∀ w : World, (callFunc g cap).run Tryd.prog w = .ok (.enter g cap) w) (h : Calls Tryd.prog g cap w R)
    (hR : ∀ v w', R (.returned v) w' → R (.returned (.tuple #[])) w') (hO : ∀ w', R .outgrown w' → False) :
    Calls Tryd.prog 59 #[.func (.func g) #[] cap] w R := by
  have hnil : ∀ w : World, (binOp BinOp.neq 1 (.func (.func g) #[] cap) .nilFunc).run Tryd.prog w = .ok (.bool true) w := fun _ => by kernel_rfl
  go_enter Tryd.func59, Tryd.ntmps59
  go_wp2_with fail
  refine h.mono ?_
  intro e w' hr
  cases e with
  | returned v =>
    have hr2 := hR v w' hr
    clear hr hR h
    go_wp2_with fail
    exact bodyPost_ret (v := .tuple #[]) (by simp [results, Tryd.results59, go_sem]) rfl hr2
  | panicked ch => exact ⟨rfl, hr⟩
  | outgrown => exact (hO _ hr).elim

theorem catch_panicking (b : Nat) (c a x y : Int) (older : List PanicEntry) (w : World) (hb : Whole w b 49 #[.int .i64 x, .int .i64 y]) :
    CallsD Tryd.prog 57 #[.pointer (some ⟨b, 0, none⟩)] (.panicking ({ v := .iface 49 (.agg #[.int .i64 c, .int .i64 a]), recovered := false } :: older)) w fun e u' w' =>
      e = .returned (.tuple #[]) ∧ u' = .panicking ({ v := .iface 49 (.agg #[.int .i64 c, .int .i64 a]), recovered := true } :: older) ∧ Whole w' b 49 #[.int .i64 c, .int .i64 a] ∧ w.grownBy w' (some b) := by
  refine callsD_of_wpS Tryd.func57 rfl fun c₀ cs hu => ?_
  apply wpS_seq
  apply wpS_region
  simp [wpOpsS, go_sem, recoverD, hu, Tryd.ntmps57, Exit.thenS]
  apply wpS_seq
  apply wpS_region
  simp [wpOpsS, go_sem, Exit.thenS]
  refine wpS_cond (t := true) (by simp [Act.eval, Array.replicate]) ?_
  simp only [if_true]
  apply wpS_region
  simp [wpOpsS, go_sem]
  refine (stopOf_any c a w).mono ?_
  rintro e w1 ⟨rfl, hb1⟩
  have hw1 := hb.below hb1
  have h0 := hw1.cell 0
  have h1 := hw1.cell 1
  have f0 := hw1.frozen 0
  have f1 := hw1.frozen 1
  simp [go_sem, h0, h1, f0, f1]
  obtain ⟨hW, hG⟩ := two_put (u := .int .i64 c) (v := .int .i64 a) hb hb1
  clear h0 h1 f0 f1 hw1 hb1 hb
  refine ⟨rfl, .panicking ({ v := .iface 49 (.agg #[.int .i64 c, .int .i64 a]), recovered := true } :: older), rfl, .tuple #[], ?_, rfl, rfl, hW, hG⟩
  simp [results, Tryd.results57]

theorem catch_idle (p : Addr) (w : World) :
    CallsD Tryd.prog 57 #[.pointer (some p)] .returning w fun e u' w' => e = .returned (.tuple #[]) ∧ u' = .returning ∧ w' = w := by
  refine callsD_of_wpS Tryd.func57 rfl fun c₀ cs hu => ?_
  apply wpS_seq
  apply wpS_region
  simp [wpOpsS, go_sem, recoverD, hu, Tryd.ntmps57, Exit.thenS]
  apply wpS_seq
  apply wpS_region
  simp [wpOpsS, go_sem, Exit.thenS]
  refine wpS_cond (t := false) (by simp [Act.eval, Array.replicate]) ?_
  simp only [Bool.false_eq_true, if_false]
  refine wpS_of_wp (wp_skip ?_)
  cases c₀
  simp_all [bodyPostS, results, Tryd.results57]

set_option maxHeartbeats 400000 in
/-- Out of a function that ends by returning, or with a Stop. -/
theorem out_any (g : FuncId) (cap : Array Value) (c a : Int) (w : World) (S : World → Prop) (hcf : ∀ w : World, (callFunc g cap).run Tryd.prog w = .ok (.enter g cap) w)
    (h : Calls Tryd.prog g cap (w.alloc (.cells #[.int .i64 0, .int .i64 0] 49)) (fun e w' => Ended c a e ∧ S w'))
    (hS : ∀ w', S w' → Whole w' w.heap.size 49 #[.int .i64 0, .int .i64 0]) :
    Calls Tryd.prog 42 #[.func (.func g) #[] cap] w fun e w' => e = .returned (.agg #[.int .i64 c, .int .i64 a]) ∧ ∃ w1, S w1 ∧ w1.grownBy w' (some w.heap.size) := by
  have hmf : ∀ (fn : Fn) (first cap : Array Value) (w : World), (Instr.makeFunc fn first cap).run Tryd.prog w = .ok (.func fn first cap) w := fun _ _ _ _ => rfl
  go_enter_defers Tryd.func42, Tryd.ntmps42
  go_wp2_with (go_at_call 59; refine (call_any g cap _ _ hcf h ?_ ?_).mono ?_)
  · rintro v w' ⟨he, hs⟩
    rcases he with ⟨h0, h1, _⟩ | ⟨_, h1⟩
    · exact ⟨.inl ⟨h0, h1, rfl⟩, hs⟩
    · cases h1
  · rintro w' ⟨he, _⟩
    rcases he with ⟨_, _, h1⟩ | ⟨_, h1⟩ <;> cases h1
  · rintro e w1 ⟨he, hs⟩
    have hw1 := hS _ hs
    have h0 := hw1.cell 0
    have h1 := hw1.cell 1
    have f0 := hw1.frozen 0
    have f1 := hw1.frozen 1
    clear h hS
    rcases he with ⟨rfl, rfl, rfl⟩ | ⟨hc, rfl⟩
    · simp at h0 h1
      go_wp2_with fail
      refine leaves_cons (f := 57) (args := #[.pointer (some ⟨w.heap.size, 0, none⟩)]) (by simp) (by simp [go_sem]) ?_
      refine (catch_idle ⟨w.heap.size, 0, none⟩ _).mono ?_
      rintro e u' w2 ⟨rfl, rfl, rfl⟩
      simp [Leaves, settle, results, Tryd.results42, go_sem, h0, h1]
      have g1 : w1.grownBy (w1.setCell ⟨w.heap.size, 0, none⟩ (.int .i64 0)) (some w.heap.size) := gb_put (p := ⟨w.heap.size, 0, none⟩) (gb_refl w1 _) (.inl rfl) _
      exact ⟨w1, hs, gb_put (p := ⟨w.heap.size, 1, none⟩) g1 (.inl rfl) _⟩
    · have H := Lib.hid hc
      clear hc
      simp at h0 h1
      go_wp2_with fail
      refine leaves_cons (f := 57) (args := #[.pointer (some ⟨w.heap.size, 0, none⟩)]) (by simp) (by simp [go_sem]) ?_
      refine (catch_panicking w.heap.size c a 0 0 [] _ hw1).mono ?_
      rintro e u' w2 ⟨rfl, rfl, hw2, hg2⟩
      have k0 := hw2.cell 0
      have k1 := hw2.cell 1
      simp at k0 k1
      simp [Leaves, settle, results, Tryd.results42, go_sem, k0, k1]
      exact ⟨w1, hs, hg2⟩

set_option maxHeartbeats 400000 in
/-- Within: the offset of the Stop grows by 'by'. -/
theorem within_any (g : FuncId) (cap : Array Value) (c a n : Int) (w : World) (S : World → Prop) (hcf : ∀ w : World, (callFunc g cap).run Tryd.prog w = .ok (.enter g cap) w)
    (h : Calls Tryd.prog g cap (w.alloc (.cells #[.int .i64 0, .int .i64 0] 49)) (fun e w' => Ended c a e ∧ S w'))
    (hS : ∀ w', S w' → Whole w' w.heap.size 49 #[.int .i64 0, .int .i64 0])
    (ha : 0 ≤ a) (ha2 : a ≤ 1000000) (hn : 0 ≤ n) (hn2 : n ≤ 1000000) :
    Calls Tryd.prog 63 #[.int .i64 n, .func (.func g) #[] cap] w fun e w' => Ended c (if c = 0 then 0 else a + n) e ∧ ∃ w1, S w1 ∧ w1.grownBy w' (some w.heap.size) := by
  by_cases hc : c = 0
  · subst hc
    go_enter Tryd.func63, Tryd.ntmps63
    go_wp2_with (go_at_call 42; refine (out_any g cap 0 a _ S hcf h hS).mono ?_)
    rintro e w2 ⟨rfl, w1, hs, hg⟩
    go_wp2_with (go_at_call 29; refine (unless_true _ _ _).mono ?_; rintro e w' ⟨rfl, rfl⟩)
    go_end0
    exact ⟨.inl ⟨rfl, rfl, rfl⟩, w1, hs, gb_alloc hg _⟩
  · have H := Lib.hid hc
    have hd : (c == 0) = false := by simpa using hc
    rw [if_neg hc]
    clear hc
    go_enter Tryd.func63, Tryd.ntmps63
    go_wp2_with (go_at_call 42; refine (out_any g cap c a _ S hcf h hS).mono ?_)
    rintro e w2 ⟨rfl, w1, hs, hg⟩
    go_wp2_with (go_at_call 29; refine (unless_false _ _ _).mono ?_; rintro e w' ⟨rfl, rfl⟩)
    exact ⟨rfl, .inr ⟨H.out, rfl⟩, w1, hs, gb_alloc hg _⟩

end Go.Proofs.YtohliaellefhaaaDoor

/- A block of one, two, four cells, all written. -/
namespace Go.Proofs.YtohliaellefhaaaDoor
open Go.RowKit
set_option linter.unusedVariables false

theorem put1 {w : World} {b : Nat} {t : TypeId} {x0 u0 : Value} (hb : Whole w b t #[x0]) : Whole (w.setCell ⟨b, 0, none⟩ u0) b t #[u0] ∧ w.grownBy (w.setCell ⟨b, 0, none⟩ u0) (some b) := ⟨(hb.put 0 u0), (gb_put (p := ⟨b, 0, none⟩) (gb_refl w _) (.inl rfl) u0)⟩
theorem put2 {w : World} {b : Nat} {t : TypeId} {x0 x1 u0 u1 : Value} (hb : Whole w b t #[x0, x1]) : Whole ((w.setCell ⟨b, 0, none⟩ u0).setCell ⟨b, 1, none⟩ u1) b t #[u0, u1] ∧ w.grownBy ((w.setCell ⟨b, 0, none⟩ u0).setCell ⟨b, 1, none⟩ u1) (some b) := ⟨((hb.put 0 u0).put 1 u1), (gb_put (p := ⟨b, 1, none⟩) (gb_put (p := ⟨b, 0, none⟩) (gb_refl w _) (.inl rfl) u0) (.inl rfl) u1)⟩
theorem put4 {w : World} {b : Nat} {t : TypeId} {x0 x1 x2 x3 u0 u1 u2 u3 : Value} (hb : Whole w b t #[x0, x1, x2, x3]) : Whole ((((w.setCell ⟨b, 0, none⟩ u0).setCell ⟨b, 1, none⟩ u1).setCell ⟨b, 2, none⟩ u2).setCell ⟨b, 3, none⟩ u3) b t #[u0, u1, u2, u3] ∧ w.grownBy ((((w.setCell ⟨b, 0, none⟩ u0).setCell ⟨b, 1, none⟩ u1).setCell ⟨b, 2, none⟩ u2).setCell ⟨b, 3, none⟩ u3) (some b) := ⟨((((hb.put 0 u0).put 1 u1).put 2 u2).put 3 u3), (gb_put (p := ⟨b, 3, none⟩) (gb_put (p := ⟨b, 2, none⟩) (gb_put (p := ⟨b, 1, none⟩) (gb_put (p := ⟨b, 0, none⟩) (gb_refl w _) (.inl rfl) u0) (.inl rfl) u1) (.inl rfl) u2) (.inl rfl) u3)⟩
end Go.Proofs.YtohliaellefhaaaDoor

/- Strings as lists of bytes. No program here. -/
namespace Go.Proofs.YtohliaellefhaaaDoor
set_option linter.unusedVariables false

theorem u8_ext {a b : UInt8} (h : a.toNat = b.toNat) : a = b := UInt8.toNat_inj.1 h
/-- A string of bytes. -/
def S (l : List UInt8) : ByteArray := ⟨l.toArray⟩
theorem S_size (l : List UInt8) : (S l).size = l.length := by simp [S, ByteArray.size]
theorem S_list (l : List UInt8) : (S l).data.toList = l := by simp [S]
theorem S_toList (l : List UInt8) : (S l).toList = l := by rw [ByteArray.toList_eq]; exact S_list l
theorem S_of (s : ByteArray) : S s.data.toList = s := by cases s; simp [S]
theorem S_inj {a b : List UInt8} (h : S a = S b) : a = b := by
  have := congrArg (fun s => s.data.toList) h
  simpa [S] using this
theorem S_append (a b : List UInt8) : S a ++ S b = S (a ++ b) := by
  apply ByteArray.ext
  simp [S]
theorem S_extract (l : List UInt8) (i j : Nat) : (S l).extract i j = S ((l.drop i).take (j - i)) := by
  apply ByteArray.ext
  apply Array.toList_inj.1
  simp [S, List.extract]
theorem S_get (l : List UInt8) (i : Nat) (h : i < (S l).size) : (S l)[i] = l[i]'(by rw [S_size] at h; exact h) := by
  show (S l).data[i] = _
  simp [S]
/-- Bytes as numbers. -/
def nums (l : List UInt8) : List Int := l.map fun c => (c.toNat : Int)
theorem nums_length (l : List UInt8) : (nums l).length = l.length := by simp [nums]
theorem nums_append (a b : List UInt8) : nums (a ++ b) = nums a ++ nums b := by simp [nums]
theorem strOfNums_nums (l : List UInt8) : strOfNums (nums l) = S l := by
  unfold strOfNums nums S
  congr 2
  rw [List.map_map]
  conv => rhs; rw [← List.map_id l]
  apply List.map_congr_left
  intro c _
  simp
end Go.Proofs.YtohliaellefhaaaDoor

/- Slices that read as a list of values; slices of bytes as strings. -/
namespace Go.Proofs.YtohliaellefhaaaDoor
set_option linter.unusedVariables false
open Go.RowKit

/-- The slice at A reads as the values vs, in blocks below B. -/
def Lies (w : World) (B : Nat) (A : Option Addr) (vs : List Value) : Prop :=
  ∀ i v, vs[i]? = some v → ∃ b off, A = some ⟨b, off, none⟩ ∧ b < B ∧ w.cell? ⟨b, off + i, none⟩ = some v

theorem Lies.nil {w : World} {B : Nat} {A : Option Addr} : Lies w B A [] := fun i v h => by simp at h
theorem Lies.more {w : World} {B B' : Nat} {A : Option Addr} {vs : List Value} (h : Lies w B A vs) (hb : B ≤ B') : Lies w B' A vs := fun i v hv => by
  obtain ⟨b, off, e, h1, h2⟩ := h i v hv
  exact ⟨b, off, e, by omega, h2⟩
theorem Lies.below {w w' : World} {B B' : Nat} {A : Option Addr} {vs : List Value} (h : Lies w B A vs) (hb : Below B' w w') (hB : B ≤ B') : Lies w' B A vs := fun i v hv => by
  obtain ⟨b, off, e, h1, h2⟩ := h i v hv
  exact ⟨b, off, e, h1, (hb.cell (p := ⟨b, off + i, none⟩) (by show b < _; omega)).trans h2⟩
theorem Lies.grown {w w' : World} {B : Nat} {A : Option Addr} {vs : List Value} {row : Option Nat} (h : Lies w B A vs) (hg : w.grownBy w' row) (hB : B ≤ w.heap.size) (hr : ∀ g, row = some g → B ≤ g) : Lies w' B A vs := fun i v hv => by
  obtain ⟨b, off, e, h1, h2⟩ := h i v hv
  refine ⟨b, off, e, h1, (World.cell?_of_block (a := ⟨b, off + i, none⟩) (hg.block b (by omega) ?_)).trans h2⟩
  intro e'
  have := hr b e'.symm
  omega
theorem Lies.at_ {w : World} {B : Nat} {A : Option Addr} {vs : List Value} (h : Lies w B A vs) {i : Nat} (hi : i < vs.length) : ∃ b off, A = some ⟨b, off, none⟩ ∧ b < B ∧ w.cell? ⟨b, off + i, none⟩ = some vs[i] :=
  h i _ (List.getElem?_eq_getElem hi)
theorem Lies.cut {w : World} {B : Nat} {A : Option Addr} {vs : List Value} (h : Lies w B A vs) (k : Nat) : Lies w B (A.map fun a => ⟨a.block, a.off + k, none⟩) (vs.drop k) := fun i v hv => by
  rw [List.getElem?_drop] at hv
  obtain ⟨b, off, rfl, h1, h2⟩ := h _ v hv
  exact ⟨b, off + k, rfl, h1, by rw [Nat.add_assoc]; exact h2⟩
theorem Lies.take {w : World} {B : Nat} {A : Option Addr} {vs : List Value} (h : Lies w B A vs) (k : Nat) : Lies w B A (vs.take k) := fun i v hv => by
  rw [List.getElem?_take] at hv
  split at hv
  · exact h i v hv
  · cases hv

/-- A row of the call's own reads as its values. -/
theorem lies_own {w : World} {base n : Nat} {e : TypeId} {v : Value} {vs : List Value} (h : w.ownsRow base e 1 v n vs) :
    ∃ A c, v = .slice A n c ∧ n ≤ c ∧ c ≤ maxLen ∧ Lies w w.heap.size A vs ∧ (∀ a, A = some a → base ≤ a.block ∧ a.block < w.heap.size) := by
  obtain ⟨h1, h2⟩ := h
  rcases h2 with ⟨rfl, h2⟩ | ⟨g, cap, cur, rfl, hg, hh, hc, hm, hs, ht⟩
  · have hL : vs = [] := List.eq_nil_of_length_eq_zero (by omega)
    subst hL
    subst h2
    exact ⟨none, 0, rfl, by simp, by simp, Lies.nil, fun a e => by cases e⟩
  · have hlt : g < w.heap.size := (Array.getElem?_eq_some_iff.1 hh).1
    refine ⟨_, cap, rfl, hc, hm, ?_, fun a e => by simp only [Option.some.injEq] at e; subst e; exact ⟨hg, hlt⟩⟩
    intro i u hu
    refine ⟨g, 0, rfl, hlt, ?_⟩
    rw [Nat.zero_add, cell_of_row w g i cur _ (0, 0) hh]
    rw [← ht] at hu
    rw [List.getElem?_take] at hu
    split at hu
    · simpa using hu
    · cases hu

/-- Bytes as values. -/
def cells (l : List Int) : List Value := l.map (.int .u8)
theorem cells_length (l : List Int) : (cells l).length = l.length := by simp [cells]
theorem cells_get {l : List Int} {i : Nat} {c : Int} (h : l[i]? = some c) : (cells l)[i]? = some (.int .u8 c) := by simp [cells, h]
theorem cells_snoc (l : List Int) (c : Int) : cells (l ++ [c]) = cells l ++ [.int .u8 c] := by simp [cells]
theorem Lies.byte {w : World} {B : Nat} {A : Option Addr} {l : List Int} (h : Lies w B A (cells l)) {i : Nat} {c : Int} (hc : l[i]? = some c) : ∃ b off, A = some ⟨b, off, none⟩ ∧ b < B ∧ w.cell? ⟨b, off + i, none⟩ = some (.int .u8 c) :=
  h i _ (cells_get hc)

/-- string(b). -/
theorem str_lies {P : Program} {w : World} {B : Nat} {A : Option Addr} {l : List Int} (h : Lies w B A (cells l)) (hl : 0 < l.length) (c : Nat) {src e : TypeId} (hs : P.underlying src = some (.slice e)) (he : P.underlying e = some (.int .u8)) :
    ∀ dst, P.underlying dst = some .string → (convert src dst (.slice A l.length c)).run P w = .ok (.string (strOfNums l)) w := by
  obtain ⟨b, off, rfl, _, _⟩ := h.byte (List.getElem?_eq_getElem hl)
  refine run_convert_bytes_arg w src e hs he b off l.length c l rfl ?_
  intro i hi
  obtain ⟨b', off', e', _, h2⟩ := h.byte (List.getElem?_eq_getElem hi)
  simp only [Option.some.injEq, Addr.mk.injEq] at e'
  obtain ⟨rfl, rfl, _⟩ := e'
  rw [h2]
  simp [List.getD, List.getElem?_eq_getElem hi]

/-- What a function that makes bytes hands back: the bytes l, in a row of its own. -/
def Bytes (l : List Int) (w : World) (e : Ending) (w' : World) : Prop :=
  ∃ A c, e = .returned (.slice A l.length c) ∧ l.length ≤ c ∧ c ≤ maxLen ∧ Lies w' w'.heap.size A (cells l) ∧ (∀ a, A = some a → w.heap.size ≤ a.block ∧ a.block < w'.heap.size) ∧ Below w.heap.size w w'

theorem bytes_own {w w' : World} {n : Nat} {v : Value} {l : List Int} (h : w'.ownsRow w.heap.size 5 1 v n (cells l)) (hn : l.length = n) (hb : Below w.heap.size w w') : Bytes l w (.returned v) w' := by
  obtain ⟨A, c, rfl, h1, h2, h3, h4⟩ := lies_own h
  subst hn
  exact ⟨A, c, rfl, h1, h2, h3, h4, hb⟩
theorem bytes_of {w w' : World} {v : Value} {l l' : List Int} (h : Bytes l w (.returned v) w') (e : l = l') : Bytes l' w (.returned v) w' := e ▸ h
theorem infoB : (Tryd.prog.info? 5).map (fun i => (i.zero, i.size, i.bytes)) = some (some (.int .u8 0), 1, 1) := by kernel_rfl

/-- append of a new block of bytes onto a row of bytes of the call's own. -/
theorem wp_app {w : World} {o : Oper} {a : Act} {K : Act → World → Prop} {Q : Exit → Act → World → Prop} (s x : Operand)
    (ho : o.op = .call { callee := .builtin .append, args := #[s, x], argTypes := #[36, 36] })
    (base : Nat) (v : Value) (n : Nat) (xs : List Int) (hs : a.eval s = v) (hown : w.ownsRow base 5 1 v n (cells xs))
    (g m : Nat) (news : List Int) (hx : a.eval x = .slice (some ⟨g, 0, none⟩) m m) (hl : news.length = m) (hg : w.heap[g]? = some (.cells (cells news).toArray 5 (0, 0)))
    (hm : 0 < m) (hb : n + m ≤ 1000000) (hbase : base ≤ w.heap.size)
    (h : ∀ v' w', w'.ownsRow base 5 1 v' (n + m) (cells (xs ++ news)) → w.grownBy w' v.ownBlock → K (a.put o.dst v') w') : o.wp Tryd.prog a w K Q := by
  obtain ⟨i0, hi0, hz0, hz1, hz2⟩ := info_parts infoB
  refine wp_append_lies w s x _ ho base 5 i0 _ 1 1 Tryd.underlying36 hi0 hz0 hz1 hz2 rfl (by omega) v n (cells xs) hs hown ⟨g, 0, none⟩ m m (cells news) hx (by rw [cells_length]; omega) ?_ ?_ hm (by unfold maxLen; omega) (by omega) hbase _ rfl (fun g cap w' h2 h3 _ _ => h _ w' (by unfold cells at *; rw [List.map_append]; exact h2) h3)
  · exact World.news_of_block hg
  · intro u hu
    obtain ⟨c, _, rfl⟩ := List.mem_map.1 hu
    rfl
theorem wpList_app {w : World} {ops : Array Oper} {rest : List Oper} {o : Oper} {a : Act} {Q : Exit → Act → World → Prop} (hgd : o.guard = none) (s x : Operand)
    (ho : o.op = .call { callee := .builtin .append, args := #[s, x], argTypes := #[36, 36] })
    (base : Nat) (v : Value) (n : Nat) (xs : List Int) (hs : a.eval s = v) (hown : w.ownsRow base 5 1 v n (cells xs))
    (g m : Nat) (news : List Int) (hx : a.eval x = .slice (some ⟨g, 0, none⟩) m m) (hl : news.length = m) (hg : w.heap[g]? = some (.cells (cells news).toArray 5 (0, 0)))
    (hm : 0 < m) (hb : n + m ≤ 1000000) (hbase : base ≤ w.heap.size)
    (h : ∀ v' w', w'.ownsRow base 5 1 v' (n + m) (cells (xs ++ news)) → w.grownBy w' v.ownBlock → wpList Tryd.prog ops Q rest (a.put o.dst v') w') : wpList Tryd.prog ops Q (o :: rest) a w :=
  wpList_plain hgd fun _ hK => wp_app s x ho base v n xs hs hown g m news hx hl hg hm hb hbase fun v' w' h2 h3 => hK _ _ (h v' w' h2 h3)
/-- At a step of a region that draws its order. -/
theorem step_app {w : World} {ops : Array Oper} {o : Oper} {a : Act} {K : Act → World → Prop} {Q : Exit → Act → World → Prop} {E : Prop} (hgd : o.guard = none) (s x : Operand)
    (ho : o.op = .call { callee := .builtin .append, args := #[s, x], argTypes := #[36, 36] })
    (base : Nat) (v : Value) (n : Nat) (xs : List Int) (hs : a.eval s = v) (hown : w.ownsRow base 5 1 v n (cells xs))
    (g m : Nat) (news : List Int) (hx : a.eval x = .slice (some ⟨g, 0, none⟩) m m) (hl : news.length = m) (hg : w.heap[g]? = some (.cells (cells news).toArray 5 (0, 0)))
    (hm : 0 < m) (hb : n + m ≤ 1000000) (hbase : base ≤ w.heap.size)
    (h : ∀ v' w', w'.ownsRow base 5 1 v' (n + m) (cells (xs ++ news)) → w.grownBy w' v.ownBlock → K (a.put o.dst v') w') :
    if Region.wanted o (yielded ops a.tmps) = true then Oper.wp Tryd.prog o a w K Q else E := by
  have hw : Region.wanted o (yielded ops a.tmps) = true := by simp [Region.wanted, hgd]
  rw [if_pos hw]
  exact wp_app s x ho base v n xs hs hown g m news hx hl hg hm hb hbase h
theorem below_app {w wr w2 : World} {e : TypeId} {b : Value} {k : Nat} {vs : List Value} (hb : Below w.heap.size w wr) (ho : wr.ownsRow w.heap.size e 1 b k vs) {w1 : World} (h1 : Below wr.heap.size wr w1) (hg : w1.grownBy w2 b.ownBlock) : Below w.heap.size w w2 :=
  Below.grown (hb.trans (h1.mono hb.size)) hg (by have := hb.size; have := h1.size; omega) (fun g h => (ho.lt g h).1)

/-- string(b) of a row of bytes of the call's own, nil too. -/
theorem str_own {w : World} {base n : Nat} {v : Value} {o : List UInt8} (h : w.ownsRow base 5 1 v n (cells (nums o))) :
    ∃ A c, v = .slice A n c ∧ ∀ dst, Tryd.prog.underlying dst = some .string → (convert 36 dst (.slice A n c)).run Tryd.prog w = .ok (.string (S o)) w := by
  obtain ⟨A, c, rfl, _, _, hl, _⟩ := lies_own h
  refine ⟨A, c, rfl, ?_⟩
  have hn : n = o.length := by
    have := h.1
    rw [cells_length, nums_length] at this
    omega
  subst hn
  by_cases h0 : 0 < (nums o).length
  · have := str_lies hl h0 c Tryd.underlying36 Tryd.underlying5
    rw [strOfNums_nums, nums_length] at this
    exact this
  · have ho : o = [] := List.eq_nil_of_length_eq_zero (by rw [nums_length] at h0; omega)
    subst ho
    intro dst hd
    rw [run_convert_bytes_string w _ dst 5 _ _ c Tryd.underlying36 Tryd.underlying5 hd]
    have e : S [] = ByteArray.empty := rfl
    rw [e]
    cases A <;> simp [Conv.bytesToString, loadCells]
    all_goals rfl
end Go.Proofs.YtohliaellefhaaaDoor

/- Rows of bytes of the call's own, as lists of bytes: append of a new block, of a string, of what lies somewhere; string(b). -/
namespace Go.Proofs.YtohliaellefhaaaDoor
set_option linter.unusedVariables false
open Go.RowKit

/-- A row of the call's own that reads as these bytes. -/
def Row (w : World) (base : Nat) (v : Value) (xs : List UInt8) : Prop := w.ownsRow base 5 1 v xs.length (cells (nums xs))
theorem Row.nil (w : World) (base : Nat) : Row w base (.slice none 0 0) [] := World.ownsRow_nil w base _ 1
theorem Row.later {w w' : World} {base : Nat} {v : Value} {xs : List UInt8} (h : Row w base v xs) (hb : Below w.heap.size w w') : Row w' base v xs :=
  World.ownsRow.kept h (gb_of_below none hb) (by cases v.ownBlock with
    | none => exact .inl rfl
    | some k => exact .inr (by simp))
theorem Row.drew {w : World} {base : Nat} {v : Value} {xs : List UInt8} (h : Row w base v xs) : Row w.drew base v xs := h
theorem Row.alloc {w : World} {base : Nat} {v : Value} {xs : List UInt8} (h : Row w base v xs) (o : Obj) : Row (w.alloc o) base v xs := World.ownsRow.alloc h o
theorem Row.mono {w : World} {base base' : Nat} {v : Value} {xs : List UInt8} (h : Row w base v xs) (hb : base' ≤ base) : Row w base' v xs := by
  obtain ⟨h1, h2⟩ := h
  refine ⟨h1, ?_⟩
  rcases h2 with h2 | ⟨g, cap, cur, e, hg, r⟩
  · exact .inl h2
  · exact .inr ⟨g, cap, cur, e, Nat.le_trans hb hg, r⟩
theorem Row.below {w w' : World} {base : Nat} {v : Value} {xs : List UInt8} (h : Row w base v xs) (hB : base ≤ w.heap.size) (hg : w.grownBy w' v.ownBlock) : Below base w w' :=
  Below.grown (Below.refl _ _) hg hB (fun k hk => (World.ownsRow.lt h k hk).1)
/-- A block of bytes, all of them read; H is its number as the walk writes it. -/
theorem Row.made (w : World) (xs : List UInt8) (base H : Nat) (hH : w.heap.size = H) (hb : base ≤ H) (hl : xs.length ≤ 1000000) :
    Row (w.alloc (.cells (cells (nums xs)).toArray 5)) base (.slice (some ⟨H, 0, none⟩) xs.length xs.length) xs := by
  subst hH
  have hn : (cells (nums xs)).length = xs.length := by rw [cells_length, nums_length]
  refine ⟨by omega, .inr ⟨w.heap.size, xs.length, (cells (nums xs)).toArray, rfl, hb, heap_alloc_new w _, Nat.le_refl _, by unfold maxLen; omega, by simp [hn], ?_⟩⟩
  rw [List.take_of_length_le (by simp [hn])]

section
variable {w : World} {ops : Array Oper} {rest : List Oper} {o : Oper} {a : Act} {Q : Exit → Act → World → Prop} {K : Act → World → Prop}
/-- append of a new block of bytes. -/
theorem row_new (hgd : o.guard = none) (s x : Operand)
    (ho : o.op = .call { callee := .builtin .append, args := #[s, x], argTypes := #[36, 36] })
    (B : Nat) (v : Value) (xs : List UInt8) (hs : a.eval s = v) (hr : Row w B v xs)
    (g m : Nat) (news : List UInt8) (hx : a.eval x = .slice (some ⟨g, 0, none⟩) m m) (hl : news.length = m) (hg : w.heap[g]? = some (.cells (cells (nums news)).toArray 5 (0, 0)))
    (hm : 0 < m) (hb : xs.length + news.length ≤ 1000000) (hB : B ≤ w.heap.size)
    (h : ∀ v' w', Row w' B v' (xs ++ news) → Below B w w' → wpList Tryd.prog ops Q rest (a.put o.dst v') w') : wpList Tryd.prog ops Q (o :: rest) a w :=
  wpList_app hgd s x ho B v _ (nums xs) hs hr g m (nums news) hx (by rw [nums_length]; exact hl) hg hm (by omega) hB fun v' w' h2 h3 =>
    h v' w' (by unfold Row; rw [nums_append, List.length_append, hl]; exact h2) (Row.below hr hB h3)
set_option maxRecDepth 100000 in
/-- append of what lies somewhere and is not empty. -/
theorem row_lies (hgd : o.guard = none) (s x : Operand)
    (ho : o.op = .call { callee := .builtin .append, args := #[s, x], argTypes := #[36, 36] })
    (B : Nat) (v : Value) (xs : List UInt8) (hs : a.eval s = v) (hr : Row w B v xs)
    (A : Option Addr) (m c B' : Nat) (news : List UInt8) (hx : a.eval x = .slice A m c) (hl : news.length = m) (hn : Lies w B' A (cells (nums news)))
    (hm : 0 < m) (hb : xs.length + news.length ≤ 1000000) (hB : B ≤ w.heap.size)
    (h : ∀ v' w', Row w' B v' (xs ++ news) → Below B w w' → wpList Tryd.prog ops Q rest (a.put o.dst v') w') : wpList Tryd.prog ops Q (o :: rest) a w := by
  obtain ⟨i0, hi0, hz0, hz1, hz2⟩ := info_parts infoB
  have hcl : (cells (nums news)).length = m := by rw [cells_length, nums_length]; exact hl
  obtain ⟨b, off, rfl, _, _⟩ := hn.at_ (i := 0) (by omega)
  refine wpList_append_own _ hgd s x _ ho B 5 i0 _ 1 1 Tryd.underlying36 hi0 hz0 hz1 hz2 rfl (by omega) v _ _ hs hr ⟨b, off, none⟩ m c (cells (nums news)) hx (by omega) ?_ ?_ (by unfold maxLen; omega) (by omega) hB (fun v' w' h2 h3 _ => h v' w' ?_ (Row.below hr hB h3))
  · intro j u hu
    obtain ⟨b', off', e, _, h2⟩ := hn j u hu
    injection e with e
    injection e with e1 e2
    subst e1; subst e2
    rw [Go.WideShapes.add_plain]; exact h2
  · intro u hu
    unfold cells at hu
    obtain ⟨c, _, rfl⟩ := List.mem_map.1 hu
    rfl
  · unfold Row
    rw [nums_append, List.length_append, hl]
    unfold cells at *
    rw [List.map_append]
    exact h2
theorem strCells_S (t : List UInt8) : Lib.strCells (S t) = cells (nums t) := by
  unfold Lib.strCells cells nums S
  simp [List.map_map]
/-- append of a string. -/
theorem row_str (hgd : o.guard = none) (s x : Operand)
    (ho : o.op = .call { callee := .builtin .append, args := #[s, x], argTypes := #[36, 9] })
    (B : Nat) (v : Value) (xs : List UInt8) (hs : a.eval s = v) (hr : Row w B v xs) (t : List UInt8) (hx : a.eval x = .string (S t))
    (hb : xs.length + t.length ≤ 1000000) (hB : B ≤ w.heap.size)
    (h : ∀ v' w', Row w' B v' (xs ++ t) → Below B w w' → wpList Tryd.prog ops Q rest (a.put o.dst v') w') : wpList Tryd.prog ops Q (o :: rest) a w := by
  obtain ⟨i0, hi0, hz0, hz1, hz2⟩ := info_parts infoB
  have ht := S_size t
  refine Lib.wpList_append_own_string w hgd s x _ _ ho B 5 i0 Tryd.underlying36 Tryd.underlying9 hi0 hz0 hz1 hz2 v _ _ hs hr (S t) hx (by unfold maxLen; omega) (by omega) hB (fun v' w' h2 h3 _ => h v' w' ?_ (Row.below hr hB h3))
  rw [ht, strCells_S] at h2
  unfold Row
  rw [nums_append, List.length_append]
  unfold cells at *
  rw [List.map_append]
  exact h2
end

/-- string(b). -/
theorem Row.str {w : World} {base : Nat} {v : Value} {xs : List UInt8} (h : Row w base v xs) :
    ∃ A c, v = .slice A xs.length c ∧ ∀ dst, Tryd.prog.underlying dst = some .string → (convert 36 dst (.slice A xs.length c)).run Tryd.prog w = .ok (.string (S xs)) w := str_own h
/-- Bytes that a function hands back, in a row of its own. -/
def BytesL (l : List UInt8) (w : World) (e : Ending) (w' : World) : Prop := ∃ v, e = .returned v ∧ Row w' w.heap.size v l ∧ Below w.heap.size w w'
theorem Row.lies {w : World} {base : Nat} {v : Value} {xs : List UInt8} (h : Row w base v xs) : ∃ A c, v = .slice A xs.length c ∧ Lies w w.heap.size A (cells (nums xs)) := by
  obtain ⟨A, c, e, _, _, h3, _⟩ := lies_own h
  exact ⟨A, c, e, h3⟩
/-- string(b) of what a function handed back. -/
theorem str_lies' {w : World} {B : Nat} {A : Option Addr} {l : List UInt8} (h : Lies w B A (cells (nums l))) (hl : 0 < l.length) (c : Nat) :
    ∀ dst, Tryd.prog.underlying dst = some .string → (convert 36 dst (.slice A l.length c)).run Tryd.prog w = .ok (.string (S l)) w := by
  have := str_lies h (by rw [nums_length]; exact hl) c Tryd.underlying36 Tryd.underlying5
  rw [strOfNums_nums, nums_length] at this
  exact this
end Go.Proofs.YtohliaellefhaaaDoor
