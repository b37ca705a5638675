/- The reference's Walk and Shape. -/
import Derived.Test.YtohliaellefhaaaDoorQy10
import Derived.Test.YtohliaellefhaaaDoorQy01
import Derived.WalkLawsBesides
import Derived.Defers
import Derived.Recover
import Derived.Lib.Hide
import Derived.Test.YtohliaellefhaaaDoorQy08
import Derived.Test.YtohliaellefhaaaDoorQy07
import Derived.Test.YtohliaellefhaaaDoorQy03
import Derived.Deep.QuietTactic
import Derived.BigQuiet
import Derived.StillTailTactics
import Derived.Deep.DeepMust
namespace Go.Proofs.YtohliaellefhaaaDoor
open Go.RowKit
set_option linter.unusedVariables false
set_option maxRecDepth 100000

def opc (c : UInt8) : UInt8 := if c = 4 then 105 else if c = 5 then 101 else 98
def opens (n : Nat) : Bool := decide (n = 2 ∨ n = 3 ∨ n = 4)
theorem opens_all : ∀ n, n < 256 → (immR n == 1) = opens n := by decide +kernel
theorem opens_iff {op : UInt8} : immR op.toNat = 1 ↔ (op.toNat = 2 ∨ op.toNat = 3 ∨ op.toNat = 4) := by
  have := opens_all op.toNat op.toNat_lt
  constructor
  · intro h
    have h2 : (immR op.toNat == 1) = true := by simpa using h
    rw [h2] at this
    unfold opens at this
    simpa using this.symm
  · intro h
    have h2 : opens op.toNat = true := by unfold opens; simpa using h
    rw [h2] at this
    simpa using this
/-- Only what opens a block, or an else, stands there. -/
def Clean (st : List UInt8) : Prop := ∀ c ∈ st, c.toNat = 2 ∨ c.toNat = 3 ∨ c.toNat = 4 ∨ c.toNat = 5
theorem clean_add {st st' : List UInt8} {op : UInt8} {en : Bool} (h : Clean st) (ha : addZ st op = some (st', en)) : Clean st' := by
  unfold addZ at ha
  by_cases h1 : immR op.toNat = 1
  · rw [if_pos h1] at ha
    injection ha with ha; injection ha with ha1 ha2
    subst ha1
    intro c hc
    rcases List.mem_append.1 hc with hc | hc
    · exact h c hc
    · rw [List.mem_singleton] at hc
      subst hc
      have := opens_iff.1 h1
      omega
  · rw [if_neg h1] at ha
    by_cases h5 : op = 5
    · rw [if_pos h5] at ha
      by_cases h4 : st.getLast? = some 4
      · rw [if_pos h4] at ha
        injection ha with ha; injection ha with ha1 ha2
        subst ha1
        intro c hc
        rcases List.mem_append.1 hc with hc | hc
        · exact h c ((List.dropLast_sublist st).subset hc)
        · rw [List.mem_singleton] at hc
          subst hc
          exact .inr (.inr (.inr rfl))
      · rw [if_neg h4] at ha; cases ha
    · rw [if_neg h5] at ha
      by_cases h11 : op = 11
      · rw [if_pos h11] at ha
        by_cases h0 : st = []
        · rw [if_pos h0] at ha
          injection ha with ha; injection ha with ha1 ha2
          subst ha1
          exact h
        · rw [if_neg h0] at ha
          injection ha with ha; injection ha with ha1 ha2
          subst ha1
          exact fun c hc => h c ((List.dropLast_sublist st).subset hc)
      · rw [if_neg h11] at ha
        injection ha with ha; injection ha with ha1 ha2
        subst ha1
        exact h
theorem op_is {op : UInt8} {n : Nat} (h : op.toNat = n) (hn : n < 256) : op = UInt8.ofNat n := by
  apply u8_ext
  rw [h, UInt8.toNat_ofNat']
  omega
theorem last_map {st : List UInt8} {x : UInt8} (h : st.getLast? = some x) : (st.map opc)[st.length - 1]? = some (opc x) := by
  rw [List.getElem?_map, ← List.getLast?_eq_getElem?, h]
  rfl
theorem opc_i {st : List UInt8} {x : UInt8} (hc : Clean st) (h : st.getLast? = some x) : (((opc x).toNat : Int) != 105) = decide (x ≠ 4) := by
  have hx : x ∈ st := List.mem_of_getLast? h
  have := hc x hx
  unfold opc
  by_cases h4 : x = 4
  · subst h4; rfl
  · rw [if_neg h4]
    by_cases h5 : x = 5
    · subst h5; rfl
    · rw [if_neg h5]
      simp [h4]
theorem map_dropLast (st : List UInt8) : (st.map opc).take (st.length - 1) = st.dropLast.map opc := by
  rw [← List.map_take, List.dropLast_eq_take]
/-- What Walk tells: is it a body? -/
def WalkPost (l : List I) (w : World) (e : Ending) (w' : World) : Prop :=
  ∃ m x : Int, e = .returned (.tuple #[.int .i64 m, .int .i64 x]) ∧ (shapeGo [] (opsOf l) = true ↔ (m ≠ 0 ∧ m = l.length)) ∧ Below w.heap.size w w'
end Go.Proofs.YtohliaellefhaaaDoor

/- The contracts of package abort: Now, Unless, stopOf, call, Out. -/
namespace Go.Proofs.YtohliaellefhaaaDoor
set_option linter.unusedVariables false
open Go.RowKit

/-- The panic with which a Stop aborts. -/
def stopP (c a : Int) : List PanicEntry := [{ v := .iface 49 (.agg #[.int .i64 c, .int .i64 a]), recovered := false }]

/-- How a step ends: with code 0 it returns, else it panics with its Stop. -/
def Ended (c a : Int) (e : Ending) : Prop := (c = 0 ∧ a = 0 ∧ e = .returned (.tuple #[])) ∨ (¬ c = 0 ∧ e = .panicked (stopP c a))

theorem now_any (c a : Int) (w : World) :
    Calls Tryd.prog 44 #[.int .i64 c, .int .i64 a] w fun e w' => e = .panicked (stopP c a) ∧ w' = w := by
  go_enter Tryd.func44, Tryd.ntmps44
  go_wp2
  exact ⟨rfl, rfl, rfl⟩

theorem unless_true (c a : Int) (w : World) :
    Calls Tryd.prog 29 #[.bool true, .int .i64 c, .int .i64 a] w fun e w' => e = .returned (.tuple #[]) ∧ w' = w := by
  go_enter Tryd.func29, Tryd.ntmps29
  go_wp2_with fail
  go_end0
  exact ⟨rfl, rfl⟩

theorem unless_false (c a : Int) (w : World) :
    Calls Tryd.prog 29 #[.bool false, .int .i64 c, .int .i64 a] w fun e w' => e = .panicked (stopP c a) ∧ w' = w := by
  go_enter Tryd.func29, Tryd.ntmps29
  go_wp2_with (go_at_call 44; refine (now_any _ _ _).mono ?_; rintro e w' ⟨rfl, rfl⟩)
  exact ⟨rfl, rfl, rfl⟩

theorem stopOf_any (c a : Int) (w : World) :
    Calls Tryd.prog 58 #[.iface 49 (.agg #[.int .i64 c, .int .i64 a])] w fun e w' => e = .returned (.agg #[.int .i64 c, .int .i64 a]) ∧ Below w.heap.size w w' := by
  have hta : ∀ w : World, (Instr.typeAssert (Value.iface 49 (Value.agg #[Value.int IntKind.i64 c, Value.int IntKind.i64 a])) 20 49 true).run Tryd.prog w = .ok (.tuple #[.agg #[Value.int IntKind.i64 c, Value.int IntKind.i64 a], .bool true]) w := fun _ => by kernel_rfl
  go_enter Tryd.func58, Tryd.ntmps58
  go_wp2
  exact bodyPost_ret (v := .agg #[.int .i64 c, .int .i64 a]) (by simp [results, Tryd.results58, go_sem]) rfl ⟨rfl, ((Below.refl _ _).alloc (Nat.le_refl _) _).alloc (by simp) _⟩

theorem call_any (g : FuncId) (cap : Array Value) (w : World) (R : Ending → World → Prop) (hcf : ∀ w : World, (callFunc g cap).run Tryd.prog w = .ok (.enter g cap) w) (h : Calls Tryd.prog g cap w R)
    (hR : ∀ v w', R (.returned v) w' → R (.returned (.tuple #[])) w') (hO : ∀ w', R .outgrown w' → False) :
    Calls Tryd.prog 59 #[.func (.func g) #[] cap] w R := by
  have hnil : ∀ w : World, (binOp BinOp.neq 1 (.func (.func g) #[] cap) .nilFunc).run Tryd.prog w = .ok (.bool true) w := fun _ => by kernel_rfl
  go_enter Tryd.func59, Tryd.ntmps59
  go_wp2_with fail
  refine h.mono ?_
  intro e w' hr
  cases e with
  | returned v =>
    have hr2 := hR v w' hr
    clear hr hR h
    go_wp2_with fail
    exact bodyPost_ret (v := .tuple #[]) (by simp [results, Tryd.results59, go_sem]) rfl hr2
  | panicked ch => exact ⟨rfl, hr⟩
  | outgrown => exact (hO _ hr).elim

theorem catch_panicking (b : Nat) (c a x y : Int) (older : List PanicEntry) (w : World) (hb : Whole w b 49 #[.int .i64 x, .int .i64 y]) :
    CallsD Tryd.prog 57 #[.pointer (some ⟨b, 0, none⟩)] (.panicking ({ v := .iface 49 (.agg #[.int .i64 c, .int .i64 a]), recovered := false } :: older)) w fun e u' w' =>
      e = .returned (.tuple #[]) ∧ u' = .panicking ({ v := .iface 49 (.agg #[.int .i64 c, .int .i64 a]), recovered := true } :: older) ∧ Whole w' b 49 #[.int .i64 c, .int .i64 a] ∧ w.grownBy w' (some b) := by
  refine callsD_of_wpS Tryd.func57 rfl fun c₀ cs hu => ?_
  apply wpS_seq
  apply wpS_region
  simp [wpOpsS, go_sem, recoverD, hu, Tryd.ntmps57, Exit.thenS]
  apply wpS_seq
  apply wpS_region
  simp [wpOpsS, go_sem, Exit.thenS]
  refine wpS_cond (t := true) (by simp [Act.eval, Array.replicate]) ?_
  simp only [if_true]
  apply wpS_region
  simp [wpOpsS, go_sem]
  refine (stopOf_any c a w).mono ?_
  rintro e w1 ⟨rfl, hb1⟩
  have hw1 := hb.below hb1
  have h0 := hw1.cell 0
  have h1 := hw1.cell 1
  have f0 := hw1.frozen 0
  have f1 := hw1.frozen 1
  simp [go_sem, h0, h1, f0, f1]
  obtain ⟨hW, hG⟩ := two_put (u := .int .i64 c) (v := .int .i64 a) hb hb1
  clear h0 h1 f0 f1 hw1 hb1 hb
  refine ⟨rfl, .panicking ({ v := .iface 49 (.agg #[.int .i64 c, .int .i64 a]), recovered := true } :: older), rfl, .tuple #[], ?_, rfl, rfl, hW, hG⟩
  simp [results, Tryd.results57]

theorem catch_idle (p : Addr) (w : World) :
    CallsD Tryd.prog 57 #[.pointer (some p)] .returning w fun e u' w' => e = .returned (.tuple #[]) ∧ u' = .returning ∧ w' = w := by
  refine callsD_of_wpS Tryd.func57 rfl fun c₀ cs hu => ?_
  apply wpS_seq
  apply wpS_region
  simp [wpOpsS, go_sem, recoverD, hu, Tryd.ntmps57, Exit.thenS]
  apply wpS_seq
  apply wpS_region
  simp [wpOpsS, go_sem, Exit.thenS]
  refine wpS_cond (t := false) (by simp [Act.eval, Array.replicate]) ?_
  simp only [Bool.false_eq_true, if_false]
  refine wpS_of_wp (wp_skip ?_)
  cases c₀
  simp_all [bodyPostS, results, Tryd.results57]

set_option maxHeartbeats 400000 in
/-- Out of a function that ends by returning, or with a Stop. -/
theorem out_any (g : FuncId) (cap : Array Value) (c a : Int) (w : World) (S : World → Prop) (hcf : ∀ w : World, (callFunc g cap).run Tryd.prog w = .ok (.enter g cap) w)
    (h : Calls Tryd.prog g cap (w.alloc (.cells #[.int .i64 0, .int .i64 0] 49)) (fun e w' => Ended c a e ∧ S w'))
    (hS : ∀ w', S w' → Whole w' w.heap.size 49 #[.int .i64 0, .int .i64 0]) :
    Calls Tryd.prog 42 #[.func (.func g) #[] cap] w fun e w' => e = .returned (.agg #[.int .i64 c, .int .i64 a]) ∧ ∃ w1, S w1 ∧ w1.grownBy w' (some w.heap.size) := by
  have hmf : ∀ (fn : Fn) (first cap : Array Value) (w : World), (Instr.makeFunc fn first cap).run Tryd.prog w = .ok (.func fn first cap) w := fun _ _ _ _ => rfl
  go_enter_defers Tryd.func42, Tryd.ntmps42
  go_wp2_with (go_at_call 59; refine (call_any g cap _ _ hcf h ?_ ?_).mono ?_)
  · rintro v w' ⟨he, hs⟩
    rcases he with ⟨h0, h1, _⟩ | ⟨_, h1⟩
    · exact ⟨.inl ⟨h0, h1, rfl⟩, hs⟩
    · cases h1
  · rintro w' ⟨he, _⟩
    rcases he with ⟨_, _, h1⟩ | ⟨_, h1⟩ <;> cases h1
  · rintro e w1 ⟨he, hs⟩
    have hw1 := hS _ hs
    have h0 := hw1.cell 0
    have h1 := hw1.cell 1
    have f0 := hw1.frozen 0
    have f1 := hw1.frozen 1
    clear h hS
    rcases he with ⟨rfl, rfl, rfl⟩ | ⟨hc, rfl⟩
    · simp at h0 h1
      go_wp2_with fail
      refine leaves_cons (f := 57) (args := #[.pointer (some ⟨w.heap.size, 0, none⟩)]) (by simp) (by simp [go_sem]) ?_
      refine (catch_idle ⟨w.heap.size, 0, none⟩ _).mono ?_
      rintro e u' w2 ⟨rfl, rfl, rfl⟩
      simp [Leaves, settle, results, Tryd.results42, go_sem, h0, h1]
      have g1 : w1.grownBy (w1.setCell ⟨w.heap.size, 0, none⟩ (.int .i64 0)) (some w.heap.size) := gb_put (p := ⟨w.heap.size, 0, none⟩) (gb_refl w1 _) (.inl rfl) _
      exact ⟨w1, hs, gb_put (p := ⟨w.heap.size, 1, none⟩) g1 (.inl rfl) _⟩
    · have H := Lib.hid hc
      clear hc
      simp at h0 h1
      go_wp2_with fail
      refine leaves_cons (f := 57) (args := #[.pointer (some ⟨w.heap.size, 0, none⟩)]) (by simp) (by simp [go_sem]) ?_
      refine (catch_panicking w.heap.size c a 0 0 [] _ hw1).mono ?_
      rintro e u' w2 ⟨rfl, rfl, hw2, hg2⟩
      have k0 := hw2.cell 0
      have k1 := hw2.cell 1
      simp at k0 k1
      simp [Leaves, settle, results, Tryd.results42, go_sem, k0, k1]
      exact ⟨w1, hs, hg2⟩

set_option maxHeartbeats 400000 in
/-- Within: the offset of the Stop grows by 'by'. -/
theorem within_any (g : FuncId) (cap : Array Value) (c a n : Int) (w : World) (S : World → Prop) (hcf : ∀ w : World, (callFunc g cap).run Tryd.prog w = .ok (.enter g cap) w)
    (h : Calls Tryd.prog g cap (w.alloc (.cells #[.int .i64 0, .int .i64 0] 49)) (fun e w' => Ended c a e ∧ S w'))
    (hS : ∀ w', S w' → Whole w' w.heap.size 49 #[.int .i64 0, .int .i64 0])
    (ha : 0 ≤ a) (ha2 : a ≤ 1000000) (hn : 0 ≤ n) (hn2 : n ≤ 1000000) :
    Calls Tryd.prog 63 #[.int .i64 n, .func (.func g) #[] cap] w fun e w' => Ended c (if c = 0 then 0 else a + n) e ∧ ∃ w1, S w1 ∧ w1.grownBy w' (some w.heap.size) := by
  by_cases hc : c = 0
  · subst hc
    go_enter Tryd.func63, Tryd.ntmps63
    go_wp2_with (go_at_call 42; refine (out_any g cap 0 a _ S hcf h hS).mono ?_)
    rintro e w2 ⟨rfl, w1, hs, hg⟩
    go_wp2_with (go_at_call 29; refine (unless_true _ _ _).mono ?_; rintro e w' ⟨rfl, rfl⟩)
    go_end0
    exact ⟨.inl ⟨rfl, rfl, rfl⟩, w1, hs, gb_alloc hg _⟩
  · have H := Lib.hid hc
    have hd : (c == 0) = false := by simpa using hc
    rw [if_neg hc]
    clear hc
    go_enter Tryd.func63, Tryd.ntmps63
    go_wp2_with (go_at_call 42; refine (out_any g cap c a _ S hcf h hS).mono ?_)
    rintro e w2 ⟨rfl, w1, hs, hg⟩
    go_wp2_with (go_at_call 29; refine (unless_false _ _ _).mono ?_; rintro e w' ⟨rfl, rfl⟩)
    exact ⟨rfl, .inr ⟨H.out, rfl⟩, w1, hs, gb_alloc hg _⟩

end Go.Proofs.YtohliaellefhaaaDoor

/- A scanner: what it holds; what a reading is. Left, Done. -/
namespace Go.Proofs.YtohliaellefhaaaDoor
set_option maxRecDepth 100000
open Go.RowKit
set_option linter.unusedVariables false

/-- What is read of bytes from a place on: a value and the next place, or an error and its place. -/
inductive Res (α : Type) where
  | ok (v : α) (k : Nat)
  | err (c a : Int)
def Res.bind {α β : Type} (r : Res α) (f : α → Nat → Res β) : Res β := match r with
  | .ok v k => f v k
  | .err c a => .err c a

/-- A scanner at block p: it reads the bytes l, k of them are read. -/
def Sc (w : World) (p : Nat) (l : List UInt8) (k : Nat) : Prop :=
  ∃ A cap, Whole w p 91 #[.slice A l.length cap, .int .i64 k] ∧ Lies w p A (cells (nums l)) ∧ l.length ≤ cap ∧ cap ≤ maxLen ∧ k ≤ l.length
theorem Sc.grown {w w' : World} {p : Nat} {l : List UInt8} {k : Nat} {row : Option Nat} (h : Sc w p l k) (hg : w.grownBy w' row) (hr : some p ≠ row) (hr2 : ∀ g, row = some g → p ≤ g) : Sc w' p l k := by
  obtain ⟨A, cap, h1, h2, h3⟩ := h
  exact ⟨A, cap, h1.grown hg hr, h2.grown hg (Nat.le_of_lt h1.lt) hr2, h3⟩
theorem Sc.below {w w' : World} {p : Nat} {l : List UInt8} {k : Nat} (h : Sc w p l k) (hb : Below w.heap.size w w') : Sc w' p l k :=
  h.grown (gb_of_below none hb) (by simp) (fun g e => by cases e)
theorem Sc.drewN {w : World} {p : Nat} {l : List UInt8} {k : Nat} (h : Sc w p l k) (n : Nat) : Sc (w.drewN n) p l k := h
theorem Sc.alloc {w : World} {p : Nat} {l : List UInt8} {k : Nat} (h : Sc w p l k) (o : Obj) : Sc (w.alloc o) p l k := h.below ((Below.refl _ _).alloc (Nat.le_refl _) _)
theorem Sc.lt {w : World} {p : Nat} {l : List UInt8} {k : Nat} (h : Sc w p l k) : p < w.heap.size := by
  obtain ⟨A, cap, h1, _⟩ := h
  exact h1.lt
theorem Sc.le {w : World} {p : Nat} {l : List UInt8} {k : Nat} (h : Sc w p l k) : k ≤ l.length ∧ (l.length : Int) ≤ 9223372036854775807 := by
  obtain ⟨A, cap, _, _, h3, h4, h5⟩ := h
  unfold maxLen at h4
  omega
theorem Sc.at {w : World} {p : Nat} {l : List UInt8} {k : Nat} (h : Sc w p l k) : w.cell? ⟨p, 1, none⟩ = some (.int .i64 k) := by
  obtain ⟨A, cap, h1, _⟩ := h
  exact h1.cell 1
theorem gb_drewN {w w1 : World} {row : Option Nat} (h : w.grownBy w1 row) (n : Nat) : w.grownBy (w1.drewN n) row := ⟨h.os, h.tape, h.output, h.size, h.block⟩
/-- What a reading leaves behind. -/
def Did {α : Type} (enc : α → Value) (p : Nat) (l : List UInt8) (w : World) (r : Res α) (e : Ending) (w' : World) : Prop := match r with
  | .ok v k => e = .returned (enc v) ∧ Sc w' p l k ∧ w.grownBy w' (some p)
  | .err c a => e = .panicked (stopP c a) ∧ w.grownBy w' (some p)

/-- The place is written. -/
theorem Sc.moved {w : World} {p : Nat} {l : List UInt8} {k : Nat} (h : Sc w p l k) (n : Nat) (v : Int) (k' : Nat) (hv : v = k') (hk : k' ≤ l.length) :
    Sc ((w.drewN n).setCell ⟨p, 1, none⟩ (.int .i64 v)) p l k' ∧ w.grownBy ((w.drewN n).setCell ⟨p, 1, none⟩ (.int .i64 v)) (some p) := by
  subst hv
  have hlt := h.lt
  obtain ⟨A, cap, h1, h2, h3, h4, _⟩ := h
  have hg : w.grownBy ((w.drewN n).setCell ⟨p, 1, none⟩ (.int .i64 k')) (some p) := gb_put (p := ⟨p, 1, none⟩) (gb_drewN (gb_refl w _) n) (.inl rfl) _
  have hw : Whole (w.drewN n) p 91 #[.slice A l.length cap, .int .i64 k] := h1
  exact ⟨⟨A, cap, by simpa using hw.put 1 (.int .i64 k'), h2.grown hg (Nat.le_of_lt hlt) (fun g e => by injection e with e; omega), h3, h4, hk⟩, hg⟩
theorem Sc.data {w : World} {p : Nat} {l : List UInt8} {k : Nat} (h : Sc w p l k) : ∃ A cap, w.cell? ⟨p, 0, none⟩ = some (.slice A l.length cap) ∧ Lies w p A (cells (nums l)) ∧ l.length ≤ cap ∧ cap ≤ maxLen := by
  obtain ⟨A, cap, h1, h2, h3, h4, _⟩ := h
  exact ⟨A, cap, h1.cell 0, h2, h3, h4⟩
theorem Sc.free {w : World} {p : Nat} {l : List UInt8} {k : Nat} (h : Sc w p l k) : w.frozen? ⟨p, 1, none⟩ = false := by
  obtain ⟨A, cap, h1, _⟩ := h
  exact h1.frozen 1
/-- abort.Unless: nothing is wrong. -/
theorem unlessT (c a : Int) (w : World) : Calls Tryd.prog 29 #[.bool true, .int .i64 c, .int .i64 a] w fun e w' => e = .returned (.tuple #[]) ∧ w = w' :=
  (unless_true c a w).mono fun _ _ h => ⟨h.1, h.2.symm⟩
theorem unlessF (c a : Int) (w : World) : Calls Tryd.prog 29 #[.bool false, .int .i64 c, .int .i64 a] w fun e w' => e = .panicked (stopP c a) ∧ w = w' :=
  (unless_false c a w).mono fun _ _ h => ⟨h.1, h.2.symm⟩

/-- A scanner's own block alone: it has n bytes, k of them are read. -/
def Hd (w : World) (p n k : Nat) : Prop := ∃ A cap, Whole w p 91 #[.slice A n cap, .int .i64 k] ∧ n ≤ cap ∧ cap ≤ maxLen ∧ k ≤ n
theorem Sc.hd {w : World} {p : Nat} {l : List UInt8} {k : Nat} (h : Sc w p l k) : Hd w p l.length k := by
  obtain ⟨A, cap, h1, _, h3, h4, h5⟩ := h
  exact ⟨A, cap, h1, h3, h4, h5⟩
theorem Hd.grown {w w' : World} {p n k : Nat} {row : Option Nat} (h : Hd w p n k) (hg : w.grownBy w' row) (hr : some p ≠ row) : Hd w' p n k := by
  obtain ⟨A, cap, h1, h2⟩ := h
  exact ⟨A, cap, h1.grown hg hr, h2⟩
theorem Hd.drewN {w : World} {p n k : Nat} (h : Hd w p n k) (m : Nat) : Hd (w.drewN m) p n k := h
theorem left_hd {w : World} {p n k : Nat} (h : Hd w p n k) :
    Calls Tryd.prog 60 #[.pointer (some ⟨p, 0, none⟩)] w fun e w' => e = .returned (.int .i64 ((n : Int) - k)) ∧ ∃ m, w' = w.drewN m := by
  obtain ⟨A, cap, h1, h2, h3, h4⟩ := h
  unfold maxLen at h3
  have c0 := h1.cell 0
  have c1 := h1.cell 1
  simp only [List.getElem?_toArray, List.getElem?_cons_zero, List.getElem?_cons_succ] at c0 c1
  clear h1
  go_enter Tryd.func60, Tryd.ntmps60
  go_wp2
  go_quiet (fail)
  go_wp2
  go_ret
  exact ⟨rfl, _, rfl⟩
theorem left_any {w : World} {p : Nat} {l : List UInt8} {k : Nat} (h : Sc w p l k) :
    Calls Tryd.prog 60 #[.pointer (some ⟨p, 0, none⟩)] w fun e w' => e = .returned (.int .i64 ((l.length : Int) - k)) ∧ ∃ m, w' = w.drewN m := left_hd h.hd
theorem done_hd {w : World} {p n k : Nat} (h : Hd w p n k) :
    Calls Tryd.prog 46 #[.pointer (some ⟨p, 0, none⟩)] w fun e w' => e = .returned (.bool ((n : Int) - k == 0)) ∧ ∃ m, w' = w.drewN m := by
  have HL := Lib.hid (left_hd h)
  have hle : k ≤ n ∧ (n : Int) ≤ 9223372036854775807 := by
    obtain ⟨A, cap, _, h2, h3, h4⟩ := h
    unfold maxLen at h3
    omega
  clear h
  go_enter Tryd.func46, Tryd.ntmps46
  go_wp2_with (go_at_call 60; go_must ((with_reducible refine HL.out.mono ?_); rintro e w' ⟨rfl, m, rfl⟩))
  go_ret
  exact ⟨rfl, _, rfl⟩
theorem done_any {w : World} {p : Nat} {l : List UInt8} {k : Nat} (h : Sc w p l k) :
    Calls Tryd.prog 46 #[.pointer (some ⟨p, 0, none⟩)] w fun e w' => e = .returned (.bool ((l.length : Int) - k == 0)) ∧ ∃ m, w' = w.drewN m := done_hd h.hd
end Go.Proofs.YtohliaellefhaaaDoor

/- take. -/
namespace Go.Proofs.YtohliaellefhaaaDoor
set_option maxRecDepth 100000
open Go.RowKit
set_option linter.unusedVariables false

/-- s[k:k+n]. -/
theorem cut_run (A : Option Addr) (len cap k n : Nat) (h1 : k + n ≤ len) (h2 : len ≤ cap) :
    ∃ A', (∀ w, (Instr.slice 36 (.slice A len cap) (some (.int .i64 (k : Int))) (some (.int .i64 ((k : Int) + n))) none).run Tryd.prog w = .ok (.slice A' n (cap - k)) w) ∧
      (∀ w B (l : List Int), Lies w B A (cells l) → Lies w B A' (cells ((l.drop k).take n))) := by
  have hr : ∀ w, _ := fun w => run_slice_lh (P := Tryd.prog) w 36 A len cap Tryd.underlying36 .i64 .i64 (k : Int) ((k : Int) + n) (by omega) (by omega) (by omega)
  have hz : ∀ w, (sizeOf (Tryd.prog.elem 36)).run Tryd.prog w = .ok 1 w := fun w => by kernel_rfl
  have e1 : (k : Int).toNat = k := by omega
  have e2 : ((k : Int) + n).toNat = k + n := by omega
  have e3 : k + n - k = n := by omega
  by_cases hk : cap = k
  · refine ⟨A, fun w => ?_, fun w B l _ => ?_⟩
    · rw [hr w, hz w, e1, e2]
      simp [Result.andThen, sliced, e3, hk]
    · have : n = 0 := by omega
      subst this
      simp [cells]
      exact Lies.nil
  · refine ⟨A.map (·.add k), fun w => ?_, fun w B l hl => ?_⟩
    · rw [hr w, hz w, e1, e2]
      simp [Result.andThen, sliced, e3, hk]
    · have hc := (hl.cut k).take n
      have e : A.map (·.add k) = A.map (fun a => ⟨a.block, a.off + k, none⟩) ∨ (cells l).length = 0 := by
        by_cases h0 : (cells l).length = 0
        · exact .inr h0
        · obtain ⟨b, off, rfl, _⟩ := hl.at_ (i := 0) (by omega)
          left
          simp [Go.WideShapes.add_plain]
      have ec : cells ((l.drop k).take n) = ((cells l).drop k).take n := by simp [cells, List.map_drop, List.map_take]
      rw [ec]
      rcases e with e | e
      · rw [e]; exact hc
      · have : cells l = [] := List.eq_nil_of_length_eq_zero e
        rw [this]; simp
        exact Lies.nil

/-- What take hands back: n bytes that lie below the scanner. -/
def Took (p : Nat) (l : List UInt8) (k n : Nat) (w : World) (e : Ending) (w' : World) : Prop :=
  ∃ A c, e = .returned (.slice A n c) ∧ n ≤ c ∧ c ≤ maxLen ∧ Lies w' p A (cells (nums ((l.drop k).take n))) ∧ Sc w' p l (k + n) ∧ w.grownBy w' (some p)

set_option maxHeartbeats 800000 in
theorem take_ok {w : World} {p : Nat} {l : List UInt8} {k : Nat} (h : Sc w p l k) (n : Nat) (hn : k + n ≤ l.length) :
    Calls Tryd.prog 45 #[.pointer (some ⟨p, 0, none⟩), .int .i64 n] w (Took p l k n w) := by
  have hle := h.le
  have HL := Lib.hid (fun m => left_any (h.drewN m))
  have HS := Lib.hid h
  have c1 := h.at
  have f1 := h.free
  clear h
  have d1 : (0 : Int) ≤ n := by omega
  have d2 : (n : Int) ≤ (l.length : Int) - k := by omega
  have d3 : (k : Int) + n ≤ 9223372036854775807 := by omega
  go_enter Tryd.func45, Tryd.ntmps45
  go_wp2_with (go_at_call 29; go_must ((with_reducible refine (unlessT _ _ _).mono ?_); rintro e w' ⟨rfl, rfl⟩))
  go_quiet (first
    | (go_at_call 60; exact Calls.quiet_of (HL.out _))
    | (go_at_call 29; exact (unlessT _ _ _).mono fun _ _ h => ⟨h.1, _, h.2.symm⟩))
  go_wp2
  obtain ⟨hs2, hg2⟩ := HS.out.moved nq ((k : Int) + n) (k + n) (by omega) hn
  generalize (w.drewN nq).setCell ⟨p, 1, none⟩ (.int .i64 ((k : Int) + n)) = W at *
  obtain ⟨A, cap, c0', hlies, hc, hm⟩ := hs2.data
  have c1' := hs2.at
  rw [show ((k + n : Nat) : Int) = (k : Int) + n by omega] at c1'
  obtain ⟨A', hcut, hcl⟩ := cut_run A l.length cap k n hn hc
  have HLI := Lib.hid (hcl W p (nums l) hlies)
  have HS2 := Lib.hid hs2
  have HG2 := Lib.hid hg2
  clear hlies hs2 hg2 c1 f1 hcl
  go_quiet (fail)
  go_wp2
  go_ret
  exact ⟨A', cap - k, rfl, by omega, by omega, by have := HLI.out; unfold nums at *; rw [List.map_take, List.map_drop]; exact this, HS2.out.drewN _, gb_drewN HG2.out _⟩
/-- An error that take tells. -/
def Failed (p : Nat) (c : Int) (k : Nat) (w : World) (e : Ending) (w' : World) : Prop := e = .panicked (stopP c k) ∧ w.grownBy w' (some p)
theorem take_neg {w : World} {p : Nat} {l : List UInt8} {k : Nat} (h : Sc w p l k) (n : Int) (hn : n < 0) :
    Calls Tryd.prog 45 #[.pointer (some ⟨p, 0, none⟩), .int .i64 n] w (Failed p 1 k w) := by
  have c1 := h.at
  have d1 : ¬ 0 ≤ n := by omega
  have d2 : decide (0 ≤ n) = false := by simpa using hn
  clear h
  go_enter Tryd.func45, Tryd.ntmps45
  go_wp2_with (go_at_call 29; go_must ((with_reducible refine (unlessF _ _ _).mono ?_); rintro e w' ⟨rfl, rfl⟩))
  exact ⟨rfl, rfl, gb_refl _ _⟩
theorem left_held {w W : World} {p : Nat} {l : List UInt8} {k : Nat} (h : (Sc W p l k ∧ w.grownBy W (some p)) ∧ W.cell? ⟨p, 1, none⟩ = some (.int .i64 k)) :
    Calls Tryd.prog 60 #[.pointer (some ⟨p, 0, none⟩)] W fun e w' => e = .returned (.int .i64 ((l.length : Int) - k)) ∧ (Sc w' p l k ∧ w.grownBy w' (some p)) ∧ w'.cell? ⟨p, 1, none⟩ = some (.int .i64 k) :=
  (left_any h.1.1).mono fun _ _ ⟨h1, m, h2⟩ => ⟨h1, by subst h2; exact ⟨⟨h.1.1.drewN m, gb_drewN h.1.2 m⟩, h.2⟩⟩
set_option maxHeartbeats 800000 in
theorem take_short {w : World} {p : Nat} {l : List UInt8} {k : Nat} (h : Sc w p l k) (n : Nat) (hn : l.length < k + n) :
    Calls Tryd.prog 45 #[.pointer (some ⟨p, 0, none⟩), .int .i64 n] w (Failed p 2 k w) := by
  have hle := h.le
  have HS := Lib.hid h
  have c1 := h.at
  clear h
  have d1 : (0 : Int) ≤ n := by omega
  have d2 : ¬ (n : Int) ≤ (l.length : Int) - k := by omega
  have d3 : decide ((n : Int) ≤ (l.length : Int) - k) = false := by simpa using d2
  go_enter Tryd.func45, Tryd.ntmps45
  go_wp2_with (go_at_call 29; go_must ((with_reducible refine (unlessT _ _ _).mono ?_); rintro e w' ⟨rfl, rfl⟩))
  refine wp_region_held_drew (S := fun W => (Sc W p l k ∧ w.grownBy W (some p)) ∧ W.cell? ⟨p, 1, none⟩ = some (.int .i64 k)) (by kernel_rfl) ⟨⟨HS.out, gb_drew (gb_refl _ _)⟩, c1⟩ (fun hHeld => ?_)
  (refine wpAnyH_take (i := 0) (oi := { dst := some 13, op := Op.move (Operand.tmp 1), type := 3, pos := "scan.go:44", after := #[], guard := none }) (v := ?_) rfl (by kernel_rfl) (by kernel_rfl) (by kernel_rfl) (fun _ _ _ h => h) ?_ (by assumption) ?_; rotate_left; focus (refine .inl ⟨by kernel_rfl, ?_⟩; intro w hSw; (try dsimp only at hSw); go_simp; (try with_reducible rfl)); (try simp only [Act.put, List.setIfInBounds_toArray, List.set_cons_zero, List.set_cons_succ]))
  (refine wpAnyH_take (i := 1) (oi := { dst := some 14, op := Op.move (Operand.tmp 0), type := 75, pos := "scan.go:44", after := #[], guard := none }) (v := ?_) rfl (by kernel_rfl) (by kernel_rfl) (by kernel_rfl) (fun _ _ _ h => h) ?_ (by assumption) ?_; rotate_left; focus (refine .inl ⟨by kernel_rfl, ?_⟩; intro w hSw; (try dsimp only at hSw); go_simp; (try with_reducible rfl)); (try simp only [Act.put, List.setIfInBounds_toArray, List.set_cons_zero, List.set_cons_succ]))
  (refine wpAnyH_take (i := 4) (oi := { dst := some 17, op := Op.move (Operand.tmp 0), type := 75, pos := "scan.go:44", after := #[], guard := none }) (v := ?_) rfl (by kernel_rfl) (by kernel_rfl) (by kernel_rfl) (fun _ _ _ h => h) ?_ (by assumption) ?_; rotate_left; focus (refine .inl ⟨by kernel_rfl, ?_⟩; intro w hSw; (try dsimp only at hSw); go_simp; (try with_reducible rfl)); (try simp only [Act.put, List.setIfInBounds_toArray, List.set_cons_zero, List.set_cons_succ]))
  (refine wpAnyH_take (i := 5) (oi := { dst := some 18, op := Op.nilCheck (Operand.tmp 17), type := 0, pos := "scan.go:44", after := #[{ on := 4, ground := Ground.data }], guard := none }) (v := ?_) rfl (by kernel_rfl) (by kernel_rfl) (by kernel_rfl) (fun _ _ _ h => h) ?_ (by assumption) ?_; rotate_left; focus (refine .inl ⟨by kernel_rfl, ?_⟩; intro w hSw; (try dsimp only at hSw); go_simp; (try with_reducible rfl)); (try simp only [Act.put, List.setIfInBounds_toArray, List.set_cons_zero, List.set_cons_succ]))
  (refine wpAnyH_take (i := 6) (oi := { dst := some 19, op := Op.fieldAddr 91 (Operand.tmp 18) 1, type := 0, pos := "scan.go:44", after := #[{ on := 5, ground := Ground.data }], guard := none }) (v := ?_) rfl (by kernel_rfl) (by kernel_rfl) (by kernel_rfl) (fun _ _ _ h => h) ?_ (by assumption) ?_; rotate_left; focus (refine .inl ⟨by kernel_rfl, ?_⟩; intro w hSw; (try dsimp only at hSw); go_simp; (try with_reducible rfl)); (try simp only [Act.put, List.setIfInBounds_toArray, List.set_cons_zero, List.set_cons_succ]))
  (refine wpAnyH_take (i := 7) (oi := { dst := some 20, op := Op.load 3 (Operand.tmp 19), type := 3, pos := "scan.go:44", after := #[{ on := 6, ground := Ground.data }], guard := none }) (v := ?_) rfl (by kernel_rfl) (by kernel_rfl) (by kernel_rfl) (fun _ _ _ h => h) ?_ (by assumption) ?_; rotate_left; focus (refine .inl ⟨by kernel_rfl, ?_⟩; intro w hSw; (try dsimp only at hSw); go_simp; (try with_reducible rfl)); (try simp only [Act.put, List.setIfInBounds_toArray, List.set_cons_zero, List.set_cons_succ]))
  refine wpAnyH_ready (rs := [2]) (by kernel_rfl) (by simp) ?_
  refine AllReadyH.cons (o := { dst := some 15, op := Op.call { callee := Callee.value (Operand.func 60), args := #[Operand.tmp 14], argTypes := #[75] }, type := 3, pos := "scan.go:44", after := #[{ on := 1, ground := Ground.data }], guard := none }) rfl (fun K hK => ?_) AllReadyH.nil
  go_simp
  (go_at_call 60; (with_reducible refine (left_held hHeld).mono ?_); rintro e w' ⟨rfl, hk⟩)
  refine hK.out _ _ hk (fun hHeld2 => ?_)
  clear hK K hHeld
  (try simp only [Act.put, List.setIfInBounds_toArray, List.set_cons_zero, List.set_cons_succ])
  (refine wpAnyH_take (i := 3) (oi := { dst := some 16, op := Op.binOp BinOp.leq 3 (Operand.tmp 13) (Operand.tmp 15) 3, type := 4, pos := "scan.go:44", after := #[{ on := 0, ground := Ground.data }, { on := 2, ground := Ground.data }], guard := none }) (v := ?_) rfl (by kernel_rfl) (by kernel_rfl) (by kernel_rfl) (fun _ _ _ h => h) ?_ (by assumption) ?_; rotate_left; focus (refine .inl ⟨by kernel_rfl, ?_⟩; intro w hSw; (try dsimp only at hSw); go_simp; (try with_reducible rfl)); (try simp only [Act.put, List.setIfInBounds_toArray, List.set_cons_zero, List.set_cons_succ]))
  refine wpAnyH_ready (rs := [8]) (by kernel_rfl) (by simp) ?_
  refine AllReadyH.cons (o := { dst := some 21, op := Op.call { callee := Callee.value (Operand.func 29), args := #[Operand.tmp 16, Operand.const (Value.int IntKind.i64 2), Operand.tmp 20], argTypes := #[4, 26, 3] }, type := 0, pos := "scan.go:44", after := #[{ on := 3, ground := Ground.data }, { on := 7, ground := Ground.data }, { on := 2, ground := Ground.chain }], guard := none }) rfl (fun K hK => ?_) AllReadyH.nil
  go_simp
  (go_at_call 29; (with_reducible refine (unlessF _ _ _).mono ?_); rintro e w' ⟨rfl, rfl⟩; exact ⟨rfl, rfl, hHeld2.1.2⟩)
end Go.Proofs.YtohliaellefhaaaDoor
