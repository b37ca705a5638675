/- Plain mathematics: where a varint stops, the number of its lower bytes. -/
import Derived.Test.YtkleadjkebofpaaGreatDoorZs01
import Derived.WalkLawsBesides
import Derived.Defers
import Derived.Recover
import Derived.Lib.Hide
import Derived.Deep.QuietTactic
import Derived.BigQuiet
import Derived.StillTailTactics
import Derived.Deep.DeepMust
import Derived.Laws.AppendOwnNone
import Derived.Laws.MakeOwn
import Derived.Lib.AppendZerosOnto
import Derived.Lib.AppendZeros
import Derived.Deep.DeepAppendWide
import Derived.LoopTactic
import Derived.WalkSpells
import Derived.Laws.Rows
import Derived.KernelRfl
import Derived.Great.Walk
import Derived.IntWalk
import Derived.RegionTactic
import Derived.ChangeAlike
namespace Go.Proofs.YtkleadjkebofpaaGreatDoor
set_option linter.unusedVariables false
open Go.RowKit

/-- Of the first M of the bytes r, the first p go on; the next one, if there is one, does not. -/
structure Stop (M : Nat) (r : List Int) (p : Nat) : Prop where
  leM : p ≤ M
  leR : p ≤ r.length
  on : ∀ i c, i < p → r[i]? = some c → 128 ≤ c
  off : ∀ c, p < M → r[p]? = some c → c < 128

/-- A last byte, with its sign. -/
def sg (c : Int) : Int := if 64 ≤ c then c - 128 else c
end Go.Proofs.YtkleadjkebofpaaGreatDoor

/- signed, lower, length of package leb. -/
namespace Go.Proofs.YtkleadjkebofpaaGreatDoor
open Go.RowKit
set_option linter.unusedVariables false

theorem Lies.add {w : World} {B : Nat} {A : Option Addr} {vs : List Value} (h : Lies w B A vs) (k : Nat) : Lies w B (Option.map (fun x => x.add k) A) (vs.drop k) := fun i v hv => by
  rw [List.getElem?_drop] at hv
  obtain ⟨b, off, rfl, h1, h2⟩ := h _ v hv
  exact ⟨b, off + k, by simp [Addr.add], h1, by rw [Nat.add_assoc]; exact h2⟩
end Go.Proofs.YtkleadjkebofpaaGreatDoor

/- Shifts by a count that is a variable; bounds of a number off its groups. -/
namespace Go.Proofs.YtkleadjkebofpaaGreatDoor
set_option linter.unusedVariables false
open Go.RowKit

end Go.Proofs.YtkleadjkebofpaaGreatDoor

/- leb.ReadUint and leb.ReadInt. -/
namespace Go.Proofs.YtkleadjkebofpaaGreatDoor
open Go.RowKit
set_option linter.unusedVariables false

theorem rcells {r : List Int} {k p : Nat} : cells ((r.drop k).take p) = ((cells r).drop k).take p := by simp [cells, List.map_drop, List.map_take]
theorem Lies.part {w : World} {B b off : Nat} {r : List Int} (h : Lies w B (some ⟨b, off, none⟩) (cells r)) (k p : Nat) : Lies w B (some ⟨b, off + k, none⟩) (cells ((r.drop k).take p)) := by
  rw [rcells]
  have g := (h.add k).take p
  have e : Option.map (fun x : Addr => x.add k) (some ⟨b, off, none⟩) = some ⟨b, off + k, none⟩ := by
    unfold Addr.add
    by_cases hk : k = 0 <;> simp [hk]
  rw [e] at g
  exact g

end Go.Proofs.YtkleadjkebofpaaGreatDoor

/- The contracts of package abort: Now, Unless, stopOf, call, Out. -/
namespace Go.Proofs.YtkleadjkebofpaaGreatDoor
set_option linter.unusedVariables false
open Go.RowKit

/-- The panic with which a Stop aborts. -/
def stopP (c a : Int) : List PanicEntry := [{ v := .iface 60 (.agg #[.int .i64 c, .int .i64 a]), recovered := false }]

/-- How a step ends: with code 0 it returns, else it panics with its Stop. -/
def Ended (c a : Int) (e : Ending) : Prop := (c = 0 ∧ a = 0 ∧ e = .returned (.tuple #[])) ∨ (¬ c = 0 ∧ e = .panicked (stopP c a))

theorem unless_true (c a : Int) (w : World) :
    Calls Tryz.prog 17 #[.bool true, .int .i64 c, .int .i64 a] w fun e w' => e = .returned (.tuple #[]) ∧ w' = w := by
  go_enter Tryz.func17, Tryz.ntmps17
  go_wp2_with fail
  go_end0
  exact ⟨rfl, rfl⟩

theorem stopOf_any (c a : Int) (w : World) :
    Calls Tryz.prog 44 #[.iface 60 (.agg #[.int .i64 c, .int .i64 a])] w fun e w' => e = .returned (.agg #[.int .i64 c, .int .i64 a]) ∧ Below w.heap.size w w' := by
  have hta : ∀ w : World, (Instr.typeAssert (Value.iface 60 (Value.agg #[Value.int IntKind.i64 c, Value.int IntKind.i64 a])) 20 60 true).run Tryz.prog w = .ok (.tuple #[.agg #[Value.int IntKind.i64 c, Value.int IntKind.i64 a], .bool true]) w := fun _ => by kernel_rfl
  go_enter Tryz.func44, Tryz.ntmps44
  go_wp2
  exact bodyPost_ret (v := .agg #[.int .i64 c, .int .i64 a]) (by simp [results, Tryz.results44, go_sem]) rfl ⟨rfl, ((Below.refl _ _).alloc (Nat.le_refl _) _).alloc (by simp) _⟩

theorem call_any (g : FuncId) (cap : Array Value) (w : World) (R : Ending → World → Prop) (hcf : ∀ w : World, (callFunc g cap).run Tryz.prog w = .ok (.enter g cap) w) (h : Calls Tryz.prog g cap w R)
    (hR : ∀ v w', R (.returned v) w' → R (.returned (.tuple #[])) w') (hO : ∀ w', R .outgrown w' → False) :
    Calls Tryz.prog 45 #[.func (.func g) #[] cap] w R := by
  have hnil : ∀ w : World, (binOp BinOp.neq 1 (.func (.func g) #[] cap) .nilFunc).run Tryz.prog w = .ok (.bool true) w := fun _ => by kernel_rfl
  go_enter Tryz.func45, Tryz.ntmps45
  go_wp2_with fail
  refine h.mono ?_
  intro e w' hr
  cases e with
  | returned v =>
    have hr2 := hR v w' hr
    clear hr hR h
    go_wp2_with fail
    exact bodyPost_ret (v := .tuple #[]) (by simp [results, Tryz.results45, go_sem]) rfl hr2
  | panicked ch => exact ⟨rfl, hr⟩
  | outgrown => exact (hO _ hr).elim

theorem catch_panicking (b : Nat) (c a x y : Int) (older : List PanicEntry) (w : World) (hb : Whole w b 60 #[.int .i64 x, .int .i64 y]) :
    CallsD Tryz.prog 43 #[.pointer (some ⟨b, 0, none⟩)] (.panicking ({ v := .iface 60 (.agg #[.int .i64 c, .int .i64 a]), recovered := false } :: older)) w fun e u' w' =>
      e = .returned (.tuple #[]) ∧ u' = .panicking ({ v := .iface 60 (.agg #[.int .i64 c, .int .i64 a]), recovered := true } :: older) ∧ Whole w' b 60 #[.int .i64 c, .int .i64 a] ∧ w.grownBy w' (some b) := by
  refine callsD_of_wpS Tryz.func43 rfl fun c₀ cs hu => ?_
  apply wpS_seq
  apply wpS_region
  simp [wpOpsS, go_sem, recoverD, hu, Tryz.ntmps43, Exit.thenS]
  apply wpS_seq
  apply wpS_region
  simp [wpOpsS, go_sem, Exit.thenS]
  refine wpS_cond (t := true) (by simp [Act.eval, Array.replicate]) ?_
  simp only [if_true]
  apply wpS_region
  simp [wpOpsS, go_sem]
  refine (stopOf_any c a w).mono ?_
  rintro e w1 ⟨rfl, hb1⟩
  have hw1 := hb.below hb1
  have h0 := hw1.cell 0
  have h1 := hw1.cell 1
  have f0 := hw1.frozen 0
  have f1 := hw1.frozen 1
  simp [go_sem, h0, h1, f0, f1]
  obtain ⟨hW, hG⟩ := two_put (u := .int .i64 c) (v := .int .i64 a) hb hb1
  clear h0 h1 f0 f1 hw1 hb1 hb
  refine ⟨rfl, .panicking ({ v := .iface 60 (.agg #[.int .i64 c, .int .i64 a]), recovered := true } :: older), rfl, .tuple #[], ?_, rfl, rfl, hW, hG⟩
  simp [results, Tryz.results43]

theorem catch_idle (p : Addr) (w : World) :
    CallsD Tryz.prog 43 #[.pointer (some p)] .returning w fun e u' w' => e = .returned (.tuple #[]) ∧ u' = .returning ∧ w' = w := by
  refine callsD_of_wpS Tryz.func43 rfl fun c₀ cs hu => ?_
  apply wpS_seq
  apply wpS_region
  simp [wpOpsS, go_sem, recoverD, hu, Tryz.ntmps43, Exit.thenS]
  apply wpS_seq
  apply wpS_region
  simp [wpOpsS, go_sem, Exit.thenS]
  refine wpS_cond (t := false) (by simp [Act.eval, Array.replicate]) ?_
  simp only [Bool.false_eq_true, if_false]
  refine wpS_of_wp (wp_skip ?_)
  cases c₀
  simp_all [bodyPostS, results, Tryz.results43]

set_option maxHeartbeats 400000 in
/-- Out of a function that ends by returning, or with a Stop. -/
theorem out_any (g : FuncId) (cap : Array Value) (c a : Int) (w : World) (S : World → Prop) (hcf : ∀ w : World, (callFunc g cap).run Tryz.prog w = .ok (.enter g cap) w)
    (h : Calls Tryz.prog g cap (w.alloc (.cells #[.int .i64 0, .int .i64 0] 60)) (fun e w' => Ended c a e ∧ S w'))
    (hS : ∀ w', S w' → Whole w' w.heap.size 60 #[.int .i64 0, .int .i64 0]) :
    Calls Tryz.prog 15 #[.func (.func g) #[] cap] w fun e w' => e = .returned (.agg #[.int .i64 c, .int .i64 a]) ∧ ∃ w1, S w1 ∧ w1.grownBy w' (some w.heap.size) := by
  have hmf : ∀ (fn : Fn) (first cap : Array Value) (w : World), (Instr.makeFunc fn first cap).run Tryz.prog w = .ok (.func fn first cap) w := fun _ _ _ _ => rfl
  go_enter_defers Tryz.func15, Tryz.ntmps15
  go_wp2_with (go_at_call 45; refine (call_any g cap _ _ hcf h ?_ ?_).mono ?_)
  · rintro v w' ⟨he, hs⟩
    rcases he with ⟨h0, h1, _⟩ | ⟨_, h1⟩
    · exact ⟨.inl ⟨h0, h1, rfl⟩, hs⟩
    · cases h1
  · rintro w' ⟨he, _⟩
    rcases he with ⟨_, _, h1⟩ | ⟨_, h1⟩ <;> cases h1
  · rintro e w1 ⟨he, hs⟩
    have hw1 := hS _ hs
    have h0 := hw1.cell 0
    have h1 := hw1.cell 1
    have f0 := hw1.frozen 0
    have f1 := hw1.frozen 1
    clear h hS
    rcases he with ⟨rfl, rfl, rfl⟩ | ⟨hc, rfl⟩
    · simp at h0 h1
      go_wp2_with fail
      refine leaves_cons (f := 43) (args := #[.pointer (some ⟨w.heap.size, 0, none⟩)]) (by simp) (by simp [go_sem]) ?_
      refine (catch_idle ⟨w.heap.size, 0, none⟩ _).mono ?_
      rintro e u' w2 ⟨rfl, rfl, rfl⟩
      simp [Leaves, settle, results, Tryz.results15, go_sem, h0, h1]
      have g1 : w1.grownBy (w1.setCell ⟨w.heap.size, 0, none⟩ (.int .i64 0)) (some w.heap.size) := gb_put (p := ⟨w.heap.size, 0, none⟩) (gb_refl w1 _) (.inl rfl) _
      exact ⟨w1, hs, gb_put (p := ⟨w.heap.size, 1, none⟩) g1 (.inl rfl) _⟩
    · have H := Lib.hid hc
      clear hc
      simp at h0 h1
      go_wp2_with fail
      refine leaves_cons (f := 43) (args := #[.pointer (some ⟨w.heap.size, 0, none⟩)]) (by simp) (by simp [go_sem]) ?_
      refine (catch_panicking w.heap.size c a 0 0 [] _ hw1).mono ?_
      rintro e u' w2 ⟨rfl, rfl, hw2, hg2⟩
      have k0 := hw2.cell 0
      have k1 := hw2.cell 1
      simp at k0 k1
      simp [Leaves, settle, results, Tryz.results15, go_sem, k0, k1]
      exact ⟨w1, hs, hg2⟩

end Go.Proofs.YtkleadjkebofpaaGreatDoor

/- A scanner: what it holds; what a reading is. Left, Done. -/
namespace Go.Proofs.YtkleadjkebofpaaGreatDoor
set_option maxRecDepth 100000
open Go.RowKit
set_option linter.unusedVariables false

/-- What is read of bytes from a place on: a value and the next place, or an error and its place. -/
inductive Res (α : Type) where
  | ok (v : α) (k : Nat)
  | err (c a : Int)
/-- abort.Unless: nothing is wrong. -/
theorem unlessT (c a : Int) (w : World) : Calls Tryz.prog 17 #[.bool true, .int .i64 c, .int .i64 a] w fun e w' => e = .returned (.tuple #[]) ∧ w = w' :=
  (unless_true c a w).mono fun _ _ h => ⟨h.1, h.2.symm⟩
end Go.Proofs.YtkleadjkebofpaaGreatDoor

/- take. -/
namespace Go.Proofs.YtkleadjkebofpaaGreatDoor
set_option maxRecDepth 100000
open Go.RowKit
set_option linter.unusedVariables false

end Go.Proofs.YtkleadjkebofpaaGreatDoor

/- Byte, Sub, End, bytes.Clone, Over. -/
namespace Go.Proofs.YtkleadjkebofpaaGreatDoor
set_option maxRecDepth 100000
open Go.RowKit
set_option linter.unusedVariables false

end Go.Proofs.YtkleadjkebofpaaGreatDoor

/- leb.ReadUint of any bytes; number, Uint, Index. -/
namespace Go.Proofs.YtkleadjkebofpaaGreatDoor
set_option maxRecDepth 100000
open Go.RowKit
set_option linter.unusedVariables false

end Go.Proofs.YtkleadjkebofpaaGreatDoor

/- atMost, Count, flag, tag, ValType. -/
namespace Go.Proofs.YtkleadjkebofpaaGreatDoor
set_option maxRecDepth 100000
open Go.RowKit
set_option linter.unusedVariables false

end Go.Proofs.YtkleadjkebofpaaGreatDoor

/- valTypes. -/
namespace Go.Proofs.YtkleadjkebofpaaGreatDoor
set_option maxRecDepth 100000
open Go.RowKit
set_option linter.unusedVariables false

/-- A block of n bytes, of which the first are written. -/
def Part (w : World) (g n : Nat) (acc : List UInt8) : Prop := Whole w g 5 (cells (nums acc) ++ List.replicate (n - acc.length) (Value.int .u8 0)).toArray ∧ acc.length ≤ n
theorem Part.put {w : World} {g n : Nat} {acc : List UInt8} (h : Part w g n acc) (c : UInt8) (hlt : acc.length < n) : Part (w.setCell ⟨g, acc.length, none⟩ (.int .u8 c.toNat)) g n (acc ++ [c]) := by
  refine ⟨?_, by simp; omega⟩
  have h1 := h.1.put acc.length (.int .u8 c.toNat)
  have e : ((cells (nums acc) ++ List.replicate (n - acc.length) (Value.int .u8 0)).toArray.setIfInBounds acc.length (.int .u8 c.toNat)) = (cells (nums (acc ++ [c])) ++ List.replicate (n - (acc ++ [c]).length) (Value.int .u8 0)).toArray := by
    have hl : (cells (nums acc)).length = acc.length := by rw [cells_length, nums_length]
    have hr : List.replicate (n - acc.length) (Value.int .u8 0) = .int .u8 0 :: List.replicate (n - (acc.length + 1)) (.int .u8 0) := by
      rw [show n - acc.length = n - (acc.length + 1) + 1 by omega]; rfl
    rw [hr, List.setIfInBounds_toArray, List.set_append_right _ _ (by omega), hl, Nat.sub_self, List.set_cons_zero, nums_append]
    simp [cells, nums]
  rw [e] at h1
  exact h1
theorem Part.row {w : World} {g n : Nat} {acc : List UInt8} (h : Part w g n acc) (hn : acc.length = n) (base : Nat) (hb : base ≤ g) (hm : n ≤ 100000) : Row w base (.slice (some ⟨g, 0, none⟩) n n) acc := by
  subst hn
  have h1 := h.1
  rw [Nat.sub_self, List.replicate_zero, List.append_nil] at h1
  have hl : (cells (nums acc)).length = acc.length := by rw [cells_length, nums_length]
  exact ⟨by omega, .inr ⟨g, acc.length, (cells (nums acc)).toArray, rfl, hb, h1, Nat.le_refl _, by unfold maxLen; omega, by simp [hl], by rw [List.take_of_length_le (by simp [hl])]⟩⟩
theorem Part.cell {w : World} {g n : Nat} {acc : List UInt8} (h : Part w g n acc) (hlt : acc.length < n) : ∃ u, w.cell? ⟨g, acc.length, none⟩ = some u := by
  have hl : (cells (nums acc)).length = acc.length := by rw [cells_length, nums_length]
  exact ⟨_, (h.1.cell acc.length).trans (Array.getElem?_eq_getElem (by simp [hl]; omega))⟩
end Go.Proofs.YtkleadjkebofpaaGreatDoor

/- FuncType. -/
namespace Go.Proofs.YtkleadjkebofpaaGreatDoor
set_option maxRecDepth 100000
open Go.RowKit
set_option linter.unusedVariables false

end Go.Proofs.YtkleadjkebofpaaGreatDoor

/- Limits, Global. -/
namespace Go.Proofs.YtkleadjkebofpaaGreatDoor
set_option maxRecDepth 100000
open Go.RowKit
set_option linter.unusedVariables false

end Go.Proofs.YtkleadjkebofpaaGreatDoor

/- Plain mathematics: the bits of a varint's number, with and without a sign; when it fits. -/
namespace Go.Proofs.YtkleadjkebofpaaGreatDoor
open Go.RowKit
set_option linter.unusedVariables false

end Go.Proofs.YtkleadjkebofpaaGreatDoor

/- creelref02.Read. -/
namespace Go.Proofs.YtkleadjkebofpaaGreatDoor
open Go.RowKit
set_option linter.unusedVariables false

end Go.Proofs.YtkleadjkebofpaaGreatDoor

/- Both readers, each beside the reference: the same answer. -/
namespace Go.Proofs.YtkleadjkebofpaaGreatDoor
open Go.RowKit
set_option linter.unusedVariables false

/-- What is asked of a slice that comes in: it reads as these bytes. -/
structure Has (w : World) (B : Nat) (A : Option Addr) (cap : Nat) (r : List Int) : Prop where
  lies : Lies w B A (cells r)
  low_ : B ≤ w.heap.size
  room : r.length ≤ cap
  most : cap ≤ maxLen

end Go.Proofs.YtkleadjkebofpaaGreatDoor

/- The law LebReads. -/
namespace Go.Proofs.YtkleadjkebofpaaGreatDoor
open Go.RowKit
set_option linter.unusedVariables false

theorem Has.below {w w' : World} {B : Nat} {A : Option Addr} {cap : Nat} {r : List Int} (h : Has w B A cap r) (hb : Below w.heap.size w w') : Has w' B A cap r :=
  ⟨h.lies.below hb h.low_, Nat.le_trans h.low_ hb.size, h.room, h.most⟩
end Go.Proofs.YtkleadjkebofpaaGreatDoor

/- What is written is read again: behind it, longer by a group, without its last byte. -/
namespace Go.Proofs.YtkleadjkebofpaaGreatDoor
open Go.RowKit
set_option linter.unusedVariables false

end Go.Proofs.YtkleadjkebofpaaGreatDoor

/- What is written is read back: numbers, types, limits, globals. Of no program but for what a reading is. -/
namespace Go.Proofs.YtkleadjkebofpaaGreatDoor
set_option maxRecDepth 100000
open Go.RowKit
set_option linter.unusedVariables false

theorem Stop.unique {M : Nat} {r : List Int} {p q : Nat} (h : Stop M r p) (g : Stop M r q) : p = q := by
  have key : ∀ {p q : Nat}, Stop M r p → Stop M r q → ¬ p < q := by
    intro p q h g hlt
    have h1 := g.leM
    have h2 := g.leR
    have e : r[p]? = some r[p] := List.getElem?_eq_getElem (by omega)
    have a := g.on p _ hlt e
    have b := h.off _ (by omega) e
    omega
  have a := key h g
  have b := key g h
  omega
end Go.Proofs.YtkleadjkebofpaaGreatDoor

/- slices.Grow, slices.Concat of bytes; append of whatever lies. -/
namespace Go.Proofs.YtkleadjkebofpaaGreatDoor
open Go.RowKit
set_option linter.unusedVariables false
set_option maxRecDepth 100000

/-- append of whatever lies somewhere, nothing at all too. -/
theorem row_any {w : World} {ops : Array Oper} {rest : List Oper} {o : Oper} {a : Act} {Q : Exit → Act → World → Prop} (hgd : o.guard = none) (s x : Operand)
    (ho : o.op = .call { callee := .builtin .append, args := #[s, x], argTypes := #[45, 45] })
    (B : Nat) (v : Value) (xs : List UInt8) (hs : a.eval s = v) (hr : Row w B v xs)
    (A : Option Addr) (m c B' : Nat) (news : List UInt8) (hx : a.eval x = .slice A m c) (hl : news.length = m) (hn : Lies w B' A (cells (nums news))) (hA : A = none → c = 0)
    (hb : xs.length + news.length ≤ 40000000) (hB : B ≤ w.heap.size)
    (h : ∀ v' w', Row w' B v' (xs ++ news) → Below B w w' → wpList Tryz.prog ops Q rest (a.put o.dst v') w') : wpList Tryz.prog ops Q (o :: rest) a w := by
  by_cases hm : 0 < m
  · exact row_lies hgd s x ho B v xs hs hr A m c B' news hx hl hn hm hb hB h
  · obtain rfl : m = 0 := by omega
    have he : news = [] := List.eq_nil_of_length_eq_zero hl
    subst he
    obtain ⟨i0, hi0, hz0, hz1, hz2⟩ := info_parts infoB
    rcases A with _ | ad
    · obtain rfl := hA rfl
      refine wpList_append_own_none hgd s x 45 ho B 5 i0 1 Tryz.underlying45 hi0 v xs.length (cells (nums xs)) hs hr hx (h v w (by simpa using hr) (Below.refl _ _))
    · refine wpList_append_own w hgd s x 45 ho B 5 i0 _ 1 1 Tryz.underlying45 hi0 hz0 hz1 hz2 rfl (by omega) v xs.length (cells (nums xs)) hs hr ad 0 c [] hx rfl (by intro j u hu; cases hu) (by intro u hu; cases hu) (by unfold maxLen; omega) (by omega) hB (fun v' w' h2 h3 _ => h v' w' ?_ (Row.below hr hB h3))
      show w'.ownsRow B 5 1 v' (xs ++ []).length (cells (nums (xs ++ [])))
      rw [List.append_nil]
      simpa using h2

/-- Grow of nil: room for n bytes, none of them read. -/
def Room (w : World) (e : Ending) (w' : World) : Prop := ∃ v, e = .returned v ∧ Row w' w.heap.size v [] ∧ Below w.heap.size w w'
theorem grow_any (n : Nat) (w : World) (h0 : 0 < n) (hn : n ≤ 40000000) : Calls Tryz.prog 103 #[.slice none 0 0, .int .i64 n] w (Room w) := by
  obtain ⟨i0, hi0, hz0, hz1, hz2⟩ := info_parts infoB
  have hrz : ∀ ty, (Builtin.append_ #[45, 3] ty #[.slice none 0 0, .int .i64 n]).run Tryz.prog w = _ := fun ty =>
    Lib.run_append_grow_zeros w 45 3 ty 5 i0 _ .i64 .i64 Tryz.underlying45 Tryz.underlying3 hi0 hz0 none 0 0 [] (run_firstCells_none w.drew i0.size 0 0 0) n h0 (by omega) (by omega) (by omega) (by rw [hz2]; omega) (growslice_fits_wide (by omega) (by rw [hz2]; omega))
  simp only [Nat.zero_add] at hrz
  have hGn : n ≤ grownCap w n 0 5 := grownCap_ge w _ _ _
  have hG63 : grownCap w n 0 5 ≤ maxLen := grownCap_le_maxLen w n 0 5 (by unfold maxLen; omega)
  obtain ⟨G, hG⟩ : ∃ G, G = grownCap w n 0 5 := ⟨_, rfl⟩
  rw [← hG] at hrz hGn hG63
  clear hG
  have hend : ∀ cs : Array Value, cs.size = G → Row (w.alloc (.cells cs 5)).drew w.heap.size (.slice (some ⟨w.heap.size, 0, none⟩) 0 G) [] := fun cs hc =>
    ⟨rfl, .inr ⟨w.heap.size, G, cs, rfl, Nat.le_refl _, heap_alloc_new w _, by simp, hG63, by simp [hc], by simp [cells, nums]⟩⟩
  have hcs : (Builtin.zeroCells #[Value.int .u8 0] n ++ Builtin.zeroCells #[Value.int .u8 0] (G - n)).size = G := by
    simp only [Array.size_append, size_zeroCells]
    simp
    omega
  have HEND := Lib.hid (hend _ hcs)
  have hG2 : (G : Int) ≤ 9223372036854775807 := by unfold maxLen at hG63; omega
  have n1 : ¬ ((n : Int) < 0) := by omega
  have n2 : (n : Int) > 0 := by omega
  clear hend hcs hG63
  go_enter Tryz.func103, Tryz.ntmps103
  go_wp2_with (at_builtin; refine Lib.wpList_append_run _ rfl _ _ _ _ rfl _ _ rfl rfl _ _ (hrz _) ?_)
  go_ret
  exact ⟨_, rfl, HEND.out, ((Below.refl _ _).alloc (Nat.le_refl _) _).drew⟩

end Go.Proofs.YtkleadjkebofpaaGreatDoor

/- leb.Int and creelref02.Int (from the leb layer): the least number of groups of seven bits. -/
namespace Go.Proofs.YtkleadjkebofpaaGreatDoor
set_option linter.unusedVariables false
open Go.RowKit
set_option maxRecDepth 100000

end Go.Proofs.YtkleadjkebofpaaGreatDoor

/- leb.Uint, leb.Int: what they hand back is a row of the call's own; a signed number's bytes. (By gen/genOwn.py from the leb layer.) -/
namespace Go.Proofs.YtkleadjkebofpaaGreatDoor
open Go.RowKit
set_option linter.unusedVariables false
set_option maxRecDepth 100000

def Owned (l : List Int) (w : World) (e : Ending) (w' : World) : Prop := ∃ v, e = .returned v ∧ w'.ownsRow w.heap.size 5 1 v l.length (cells l) ∧ Below w.heap.size w w'
theorem owned_own {w w' : World} {n : Nat} {v : Value} {l : List Int} (h : w'.ownsRow w.heap.size 5 1 v n (cells l)) (hn : l.length = n) (hb : Below w.heap.size w w') : Owned l w (.returned v) w' := by
  subst hn
  exact ⟨v, rfl, h, hb⟩
theorem own_end {x q : Int} {n k : Nat} {w w2 : World} {v : Value} (hq : q = x / 128 ^ k) (hn : Least (fitU x) n) (hno : ∀ m, 1 ≤ m → m ≤ k → ¬ fitU x m) (hf : q < 128)
    (ho : w2.ownsRow w.heap.size 5 1 v (k + 1) (cells (grps x k) ++ [.int .u8 q])) (hb : Below w.heap.size w w2) (h0 : 0 ≤ q) : Owned (grp x n) w (.returned v) w2 := by
  have hk : Least (fitU x) (k + 1) := ⟨by omega, by show x / 128 ^ k < 128; omega, fun m h1 h2 => hno m h1 (by omega)⟩
  obtain rfl := hk.unique hn
  have e : cells (grp x (k + 1)) = cells (grps x k) ++ [.int .u8 q] := by rw [grp_snoc, cells_snoc, ← hq, show q % 128 = q by omega]
  exact owned_own (by rw [e]; exact ho) (grp_length _ _) hb

set_option maxHeartbeats 400000 in
theorem uint_own (x : Int) (w : World) (h0 : 0 ≤ x) (h1 : x ≤ 18446744073709551615) {n : Nat} (hn : Least (fitU x) n) :
    Calls Tryz.prog 86 #[.int .u64 x] w (Owned (grp x n) w) := by
  have h10 : n ≤ 10 := hn.le (by omega) (fitU_ten x (by omega))
  obtain ⟨i0, hi0, hz0, hz1, hz2⟩ := info_parts infoB
  have HN := Lib.hid hn
  clear hn
  go_enter Tryz.func86, Tryz.ntmps86
  go_wp2_with (first
    | (go_at_call 106; go_must (refine (size_any _ _ h0 h1 HN.out).mono ?_; rintro e w' ⟨rfl, rfl⟩))
    | (at_make; refine wpList_make_own _ rfl _ _ _ rfl w.heap.size 5 i0 _ 1 Tryz.underlying45 hi0 hz0 hz1 .i64 .i64 _ n rfl rfl rfl (by rw [hz2]; omega) (by unfold maxLen; omega) (Nat.le_refl _) ?_; intro w1 hown1 hgrow1))
  have hbe1 : Below w.heap.size w w1 := below_of_gb hgrow1
  have HO := Lib.hid hown1
  have HB := Lib.hid hbe1
  clear hown1 hgrow1 hbe1
  go_loopw [3, 0] (fun b v wr => ∃ k : Nat, v = .int .u64 (x / 128 ^ k) ∧ wr.ownsRow w.heap.size 5 1 b k (cells (grps x k)) ∧ Below w.heap.size w wr ∧ ∀ m, 1 ≤ m → m ≤ k → ¬ fitU x m) (fun _ v _ => (intOf v).toNat)
  case atStart => exact ⟨0, by simp, HO.out, HB.out, fun m h1 h2 => by omega⟩
  case round =>
    obtain ⟨k, rfl, hown, hbe, hno⟩ := hrel
    obtain ⟨q, hq⟩ : ∃ q, q = x / 128 ^ k := ⟨_, rfl⟩
    have hq0 : 0 ≤ q := by rw [hq]; exact Int.ediv_nonneg h0 (Int.le_of_lt (p128 _))
    have hq1 : q ≤ 18446744073709551615 := by rw [hq]; exact Int.le_trans (Int.ediv_le_self _ h0) h1
    have hk : k ≤ 9 := by
      rcases Nat.lt_or_ge k 10 with g | g
      · omega
      · exact absurd (fitU_ten x (by omega)) (hno 10 (by omega) g)
    have hsz := hbe.size
    rw [← hq]
    have HQ := Lib.hid hq
    have HBE := Lib.hid hbe
    have HNO := Lib.hid hno
    have hor : bits .or .u8 (q % 256) 128 = q % 128 + 128 := byte_or q
    clear hq hbe hno
    by_cases hlt : 128 ≤ q
    · go_wp2_with (at_builtin; refine wpList_append_own _ rfl _ _ _ rfl w.heap.size 5 i0 _ 1 1 Tryz.underlying45 hi0 hz0 hz1 hz2 rfl (by omega) _ _ _ rfl (hown.alloc _) ⟨wr.heap.size, 0, none⟩ 1 1 [.int .u8 (q % 128 + 128)] rfl rfl (World.news_of_block (cs := #[.int .u8 (q % 128 + 128)]) (t := 5) (fr := (0, 0)) (heap_alloc_new wr _)) (by simp [Value.oneCell']) (by unfold maxLen; omega) (by omega) (by simp; omega) ?_; intro v' w2 hown2 hgrow2 _; have HO2 := Lib.hid hown2; have HG2 := Lib.hid hgrow2; clear hown2 hgrow2)
      go_roundw
      case rel => exact ⟨k + 1, by rw [pow_out, HQ.out], by rw [grps_snoc, cells_snoc, ← HQ.out]; exact HO2.out, below_append HBE.out hown HG2.out, no_more HNO.out (by rw [← HQ.out]; omega)⟩
      case measure => simp [intOf]; omega
    · go_wp2_with (at_builtin; refine wpList_append_own _ rfl _ _ _ rfl w.heap.size 5 i0 _ 1 1 Tryz.underlying45 hi0 hz0 hz1 hz2 rfl (by omega) _ _ _ rfl (hown.alloc _) ⟨wr.heap.size, 0, none⟩ 1 1 [.int .u8 q] rfl rfl (World.news_of_block (cs := #[.int .u8 q]) (t := 5) (fr := (0, 0)) (heap_alloc_new wr _)) (by simp [Value.oneCell']) (by unfold maxLen; omega) (by omega) (by simp; omega) ?_; intro v' w2 hown2 hgrow2 _; have HO2 := Lib.hid hown2; have HG2 := Lib.hid hgrow2; clear hown2 hgrow2)
      go_ret
      exact own_end HQ.out HN.out HNO.out (by omega) HO2.out (below_append HBE.out hown HG2.out) hq0

theorem bytesL_of {xs : List Int} {l : List UInt8} {w w' : World} {e : Ending} (h : Owned xs w e w') (hl : nums l = xs) : BytesL l w e w' := by
  obtain ⟨v, rfl, h1, h2⟩ := h
  subst hl
  rw [nums_length] at h1
  exact ⟨v, rfl, h1, h2⟩
theorem uintB (x : Int) (w : World) (h0 : 0 ≤ x) (h1 : x ≤ 18446744073709551615) : Calls Tryz.prog 86 #[.int .u64 x] w (BytesL (lebL x) w) :=
  (uint_own x w h0 h1 (lebN_least x h1)).mono fun _ _ h => bytesL_of h (nums_lebL x)
end Go.Proofs.YtkleadjkebofpaaGreatDoor

/- The instructions as lists, and what the functions of package ops and of its reference make of them. No program here. -/
namespace Go.Proofs.YtkleadjkebofpaaGreatDoor
set_option linter.unusedVariables false

/-- An access: bytes, type, writes, signed. -/
structure AccR where
  n : Nat
  t : Nat
  wr : Bool
  sg : Bool
  deriving DecidableEq
-- LISTS
/-- What controlNames holds. -/
def tab0 : List (List UInt8) := [[117, 110, 114, 101, 97, 99, 104, 97, 98, 108, 101], [110, 111, 112], [98, 108, 111, 99, 107], [108, 111, 111, 112], [105, 102], [101, 108, 115, 101], [], [], [], [], [], [101, 110, 100], [98, 114], [98, 114, 95, 105, 102], [98, 114, 95, 116, 97, 98, 108, 101], [114, 101, 116, 117, 114, 110], [99, 97, 108, 108], [99, 97, 108, 108, 95, 105, 110, 100, 105, 114, 101, 99, 116], [], [], [], [], [], [], [], [], [100, 114, 111, 112], [115, 101, 108, 101, 99, 116], [], [], [], [], [108, 111, 99, 97, 108, 46, 103, 101, 116], [108, 111, 99, 97, 108, 46, 115, 101, 116], [108, 111, 99, 97, 108, 46, 116, 101, 101], [103, 108, 111, 98, 97, 108, 46, 103, 101, 116], [103, 108, 111, 98, 97, 108, 46, 115, 101, 116]]
/-- What memoryNames holds. -/
def tab1 : List (List UInt8) := [[105, 51, 50, 46, 108, 111, 97, 100], [105, 54, 52, 46, 108, 111, 97, 100], [], [], [105, 51, 50, 46, 108, 111, 97, 100, 56, 95, 115], [105, 51, 50, 46, 108, 111, 97, 100, 56, 95, 117], [105, 51, 50, 46, 108, 111, 97, 100, 49, 54, 95, 115], [105, 51, 50, 46, 108, 111, 97, 100, 49, 54, 95, 117], [105, 54, 52, 46, 108, 111, 97, 100, 56, 95, 115], [105, 54, 52, 46, 108, 111, 97, 100, 56, 95, 117], [105, 54, 52, 46, 108, 111, 97, 100, 49, 54, 95, 115], [105, 54, 52, 46, 108, 111, 97, 100, 49, 54, 95, 117], [105, 54, 52, 46, 108, 111, 97, 100, 51, 50, 95, 115], [105, 54, 52, 46, 108, 111, 97, 100, 51, 50, 95, 117], [105, 51, 50, 46, 115, 116, 111, 114, 101], [105, 54, 52, 46, 115, 116, 111, 114, 101], [], [], [105, 51, 50, 46, 115, 116, 111, 114, 101, 56], [105, 51, 50, 46, 115, 116, 111, 114, 101, 49, 54], [105, 54, 52, 46, 115, 116, 111, 114, 101, 56], [105, 54, 52, 46, 115, 116, 111, 114, 101, 49, 54], [105, 54, 52, 46, 115, 116, 111, 114, 101, 51, 50], [109, 101, 109, 111, 114, 121, 46, 115, 105, 122, 101], [109, 101, 109, 111, 114, 121, 46, 103, 114, 111, 119], [105, 51, 50, 46, 99, 111, 110, 115, 116], [105, 54, 52, 46, 99, 111, 110, 115, 116]]
/-- What testNames holds. -/
def tab2 : List (List UInt8) := [[105, 51, 50, 46, 101, 113, 122], [105, 51, 50, 46, 101, 113], [105, 51, 50, 46, 110, 101], [105, 51, 50, 46, 108, 116, 95, 115], [105, 51, 50, 46, 108, 116, 95, 117], [105, 51, 50, 46, 103, 116, 95, 115], [105, 51, 50, 46, 103, 116, 95, 117], [105, 51, 50, 46, 108, 101, 95, 115], [105, 51, 50, 46, 108, 101, 95, 117], [105, 51, 50, 46, 103, 101, 95, 115], [105, 51, 50, 46, 103, 101, 95, 117], [105, 54, 52, 46, 101, 113, 122], [105, 54, 52, 46, 101, 113], [105, 54, 52, 46, 110, 101], [105, 54, 52, 46, 108, 116, 95, 115], [105, 54, 52, 46, 108, 116, 95, 117], [105, 54, 52, 46, 103, 116, 95, 115], [105, 54, 52, 46, 103, 116, 95, 117], [105, 54, 52, 46, 108, 101, 95, 115], [105, 54, 52, 46, 108, 101, 95, 117], [105, 54, 52, 46, 103, 101, 95, 115], [105, 54, 52, 46, 103, 101, 95, 117]]
/-- What numberNames holds. -/
def tab3 : List (List UInt8) := [[105, 51, 50, 46, 99, 108, 122], [105, 51, 50, 46, 99, 116, 122], [105, 51, 50, 46, 112, 111, 112, 99, 110, 116], [105, 51, 50, 46, 97, 100, 100], [105, 51, 50, 46, 115, 117, 98], [105, 51, 50, 46, 109, 117, 108], [105, 51, 50, 46, 100, 105, 118, 95, 115], [105, 51, 50, 46, 100, 105, 118, 95, 117], [105, 51, 50, 46, 114, 101, 109, 95, 115], [105, 51, 50, 46, 114, 101, 109, 95, 117], [105, 51, 50, 46, 97, 110, 100], [105, 51, 50, 46, 111, 114], [105, 51, 50, 46, 120, 111, 114], [105, 51, 50, 46, 115, 104, 108], [105, 51, 50, 46, 115, 104, 114, 95, 115], [105, 51, 50, 46, 115, 104, 114, 95, 117], [105, 51, 50, 46, 114, 111, 116, 108], [105, 51, 50, 46, 114, 111, 116, 114], [105, 54, 52, 46, 99, 108, 122], [105, 54, 52, 46, 99, 116, 122], [105, 54, 52, 46, 112, 111, 112, 99, 110, 116], [105, 54, 52, 46, 97, 100, 100], [105, 54, 52, 46, 115, 117, 98], [105, 54, 52, 46, 109, 117, 108], [105, 54, 52, 46, 100, 105, 118, 95, 115], [105, 54, 52, 46, 100, 105, 118, 95, 117], [105, 54, 52, 46, 114, 101, 109, 95, 115], [105, 54, 52, 46, 114, 101, 109, 95, 117], [105, 54, 52, 46, 97, 110, 100], [105, 54, 52, 46, 111, 114], [105, 54, 52, 46, 120, 111, 114], [105, 54, 52, 46, 115, 104, 108], [105, 54, 52, 46, 115, 104, 114, 95, 115], [105, 54, 52, 46, 115, 104, 114, 95, 117], [105, 54, 52, 46, 114, 111, 116, 108], [105, 54, 52, 46, 114, 111, 116, 114]]
/-- What convertNames holds. -/
def tab4 : List (List UInt8) := [[105, 51, 50, 46, 119, 114, 97, 112, 95, 105, 54, 52], [], [], [], [], [105, 54, 52, 46, 101, 120, 116, 101, 110, 100, 95, 105, 51, 50, 95, 115], [105, 54, 52, 46, 101, 120, 116, 101, 110, 100, 95, 105, 51, 50, 95, 117]]
/-- What accesses holds. -/
def tabA : List AccR := [⟨4, 127, false, false⟩, ⟨8, 126, false, false⟩, ⟨0, 0, false, false⟩, ⟨0, 0, false, false⟩, ⟨1, 127, false, true⟩, ⟨1, 127, false, false⟩, ⟨2, 127, false, true⟩, ⟨2, 127, false, false⟩, ⟨1, 126, false, true⟩, ⟨1, 126, false, false⟩, ⟨2, 126, false, true⟩, ⟨2, 126, false, false⟩, ⟨4, 126, false, true⟩, ⟨4, 126, false, false⟩, ⟨4, 127, true, false⟩, ⟨8, 126, true, false⟩, ⟨0, 0, false, false⟩, ⟨0, 0, false, false⟩, ⟨1, 127, true, false⟩, ⟨2, 127, true, false⟩, ⟨1, 126, true, false⟩, ⟨2, 126, true, false⟩, ⟨4, 126, true, false⟩]
-- END LISTS

def acc0 : AccR := ⟨0, 0, false, false⟩
def accR (n : Nat) : AccR := if n < 40 then acc0 else tabA.getD (n - 40) acc0
def isAcc (n : Nat) : Bool := decide (0 < (accR n).n)
def immR (n : Nat) : Nat :=
  if n = 2 ∨ n = 3 ∨ n = 4 then 1 else if n = 12 ∨ n = 13 then 2 else if n = 14 then 3 else if n = 16 then 4 else if n = 17 then 5 else if n = 32 ∨ n = 33 ∨ n = 34 then 6 else if n = 35 ∨ n = 36 then 7
  else if n = 63 ∨ n = 64 then 9 else if n = 65 then 10 else if n = 66 then 11 else if isAcc n = true then 8 else 0
end Go.Proofs.YtkleadjkebofpaaGreatDoor

/- The tables of package ops in a world; nameOf. -/
namespace Go.Proofs.YtkleadjkebofpaaGreatDoor
set_option linter.unusedVariables false
open Go.RowKit

def strs (l : List (List UInt8)) : Array Value := (l.map fun s => .string (S s)).toArray
def accCells (l : List AccR) : Array Value := (l.flatMap fun a => [.int .i64 a.n, .int .u8 a.t, .bool a.wr, .bool a.sg]).toArray
/-- The tables lie where they are laid. -/
structure Tabs (w : World) : Prop where
  h0 : ∃ t fr, w.heap[2]? = some (.cells (strs tab0) t fr)
  h1 : ∃ t fr, w.heap[3]? = some (.cells (strs tab1) t fr)
  h2 : ∃ t fr, w.heap[4]? = some (.cells (strs tab2) t fr)
  h3 : ∃ t fr, w.heap[5]? = some (.cells (strs tab3) t fr)
  h4 : ∃ t fr, w.heap[6]? = some (.cells (strs tab4) t fr)
  hA : ∃ t fr, w.heap[7]? = some (.cells (accCells tabA) t fr)
theorem tab_below {w wr : World} {g : Nat} {cs : Array Value} (h : ∃ t fr, w.heap[g]? = some (.cells cs t fr)) (hb : Below w.heap.size w wr) : ∃ t fr, wr.heap[g]? = some (.cells cs t fr) := by
  obtain ⟨t, fr, h⟩ := h
  exact ⟨t, fr, (hb.block _ (Array.getElem?_eq_some_iff.1 h).1).trans h⟩
theorem Tabs.below {w wr : World} (h : Tabs w) (hb : Below w.heap.size w wr) : Tabs wr :=
  ⟨tab_below h.h0 hb, tab_below h.h1 hb, tab_below h.h2 hb, tab_below h.h3 hb, tab_below h.h4 hb, tab_below h.hA hb⟩
end Go.Proofs.YtkleadjkebofpaaGreatDoor

/- The reference's groups. -/
namespace Go.Proofs.YtkleadjkebofpaaGreatDoor
set_option linter.unusedVariables false
open Go.RowKit

end Go.Proofs.YtkleadjkebofpaaGreatDoor

/- The reference's word. -/
namespace Go.Proofs.YtkleadjkebofpaaGreatDoor
set_option linter.unusedVariables false
open Go.RowKit

end Go.Proofs.YtkleadjkebofpaaGreatDoor

/- The reference's Of. -/
namespace Go.Proofs.YtkleadjkebofpaaGreatDoor
set_option linter.unusedVariables false
open Go.RowKit

end Go.Proofs.YtkleadjkebofpaaGreatDoor

/- The reference's Types, Float, Check. -/
namespace Go.Proofs.YtkleadjkebofpaaGreatDoor
set_option linter.unusedVariables false
open Go.RowKit

end Go.Proofs.YtkleadjkebofpaaGreatDoor

/- AccessOf, immOf, Opens, accessTypes, typesOf, float, Check, Of. -/
namespace Go.Proofs.YtkleadjkebofpaaGreatDoor
set_option linter.unusedVariables false
open Go.RowKit

end Go.Proofs.YtkleadjkebofpaaGreatDoor
