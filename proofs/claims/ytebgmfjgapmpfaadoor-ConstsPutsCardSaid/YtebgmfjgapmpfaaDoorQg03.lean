/- A scanner: what it holds; what a reading is. Left, Done. -/
import Derived.Test.YtebgmfjgapmpfaaDoorQg01
import Derived.Test.YtebgmfjgapmpfaaDoorQg02
import Derived.Deep.QuietTactic
import Derived.BigQuiet
import Derived.StillTailTactics
import Derived.Deep.DeepMust
import Derived.Laws.AppendOwnNone
import Derived.Laws.MakeOwn
namespace Go.Proofs.YtebgmfjgapmpfaaDoor
set_option maxRecDepth 100000
open Go.RowKit
set_option linter.unusedVariables false

/-- What is read of bytes from a place on: a value and the next place, or an error and its place. -/
inductive Res (α : Type) where
  | ok (v : α) (k : Nat)
  | err (c a : Int)
def Res.bind {α β : Type} (r : Res α) (f : α → Nat → Res β) : Res β := match r with
  | .ok v k => f v k
  | .err c a => .err c a

/-- A scanner at block p: it reads the bytes l, k of them are read. -/
def Sc (w : World) (p : Nat) (l : List UInt8) (k : Nat) : Prop :=
  ∃ A cap, Whole w p 131 #[.slice A l.length cap, .int .i64 k] ∧ Lies w p A (cells (nums l)) ∧ l.length ≤ cap ∧ cap ≤ maxLen ∧ k ≤ l.length
theorem Sc.grown {w w' : World} {p : Nat} {l : List UInt8} {k : Nat} {row : Option Nat} (h : Sc w p l k) (hg : w.grownBy w' row) (hr : some p ≠ row) (hr2 : ∀ g, row = some g → p ≤ g) : Sc w' p l k := by
  obtain ⟨A, cap, h1, h2, h3⟩ := h
  exact ⟨A, cap, h1.grown hg hr, h2.grown hg (Nat.le_of_lt h1.lt) hr2, h3⟩
theorem Sc.below {w w' : World} {p : Nat} {l : List UInt8} {k : Nat} (h : Sc w p l k) (hb : Below w.heap.size w w') : Sc w' p l k :=
  h.grown (gb_of_below none hb) (by simp) (fun g e => by cases e)
theorem Sc.drewN {w : World} {p : Nat} {l : List UInt8} {k : Nat} (h : Sc w p l k) (n : Nat) : Sc (w.drewN n) p l k := h
theorem Sc.alloc {w : World} {p : Nat} {l : List UInt8} {k : Nat} (h : Sc w p l k) (o : Obj) : Sc (w.alloc o) p l k := h.below ((Below.refl _ _).alloc (Nat.le_refl _) _)
theorem Sc.lt {w : World} {p : Nat} {l : List UInt8} {k : Nat} (h : Sc w p l k) : p < w.heap.size := by
  obtain ⟨A, cap, h1, _⟩ := h
  exact h1.lt
theorem Sc.le {w : World} {p : Nat} {l : List UInt8} {k : Nat} (h : Sc w p l k) : k ≤ l.length ∧ (l.length : Int) ≤ 9223372036854775807 := by
  obtain ⟨A, cap, _, _, h3, h4, h5⟩ := h
  unfold maxLen at h4
  omega
theorem Sc.at {w : World} {p : Nat} {l : List UInt8} {k : Nat} (h : Sc w p l k) : w.cell? ⟨p, 1, none⟩ = some (.int .i64 k) := by
  obtain ⟨A, cap, h1, _⟩ := h
  exact h1.cell 1
theorem gb_drewN {w w1 : World} {row : Option Nat} (h : w.grownBy w1 row) (n : Nat) : w.grownBy (w1.drewN n) row := ⟨h.os, h.tape, h.output, h.size, h.block⟩
/-- What a reading leaves behind. -/
def Did {α : Type} (enc : α → Value) (p : Nat) (l : List UInt8) (w : World) (r : Res α) (e : Ending) (w' : World) : Prop := match r with
  | .ok v k => e = .returned (enc v) ∧ Sc w' p l k ∧ w.grownBy w' (some p)
  | .err c a => e = .panicked (stopP c a) ∧ w.grownBy w' (some p)

/-- The place is written. -/
theorem Sc.moved {w : World} {p : Nat} {l : List UInt8} {k : Nat} (h : Sc w p l k) (n : Nat) (v : Int) (k' : Nat) (hv : v = k') (hk : k' ≤ l.length) :
    Sc ((w.drewN n).setCell ⟨p, 1, none⟩ (.int .i64 v)) p l k' ∧ w.grownBy ((w.drewN n).setCell ⟨p, 1, none⟩ (.int .i64 v)) (some p) := by
  subst hv
  have hlt := h.lt
  obtain ⟨A, cap, h1, h2, h3, h4, _⟩ := h
  have hg : w.grownBy ((w.drewN n).setCell ⟨p, 1, none⟩ (.int .i64 k')) (some p) := gb_put (p := ⟨p, 1, none⟩) (gb_drewN (gb_refl w _) n) (.inl rfl) _
  have hw : Whole (w.drewN n) p 131 #[.slice A l.length cap, .int .i64 k] := h1
  exact ⟨⟨A, cap, by simpa using hw.put 1 (.int .i64 k'), h2.grown hg (Nat.le_of_lt hlt) (fun g e => by injection e with e; omega), h3, h4, hk⟩, hg⟩
theorem Sc.data {w : World} {p : Nat} {l : List UInt8} {k : Nat} (h : Sc w p l k) : ∃ A cap, w.cell? ⟨p, 0, none⟩ = some (.slice A l.length cap) ∧ Lies w p A (cells (nums l)) ∧ l.length ≤ cap ∧ cap ≤ maxLen := by
  obtain ⟨A, cap, h1, h2, h3, h4, _⟩ := h
  exact ⟨A, cap, h1.cell 0, h2, h3, h4⟩
theorem Sc.free {w : World} {p : Nat} {l : List UInt8} {k : Nat} (h : Sc w p l k) : w.frozen? ⟨p, 1, none⟩ = false := by
  obtain ⟨A, cap, h1, _⟩ := h
  exact h1.frozen 1
/-- abort.Unless: nothing is wrong. -/
theorem unlessT (c a : Int) (w : World) : Calls Tryd.prog 80 #[.bool true, .int .i64 c, .int .i64 a] w fun e w' => e = .returned (.tuple #[]) ∧ w = w' :=
  (unless_true c a w).mono fun _ _ h => ⟨h.1, h.2.symm⟩
theorem unlessF (c a : Int) (w : World) : Calls Tryd.prog 80 #[.bool false, .int .i64 c, .int .i64 a] w fun e w' => e = .panicked (stopP c a) ∧ w = w' :=
  (unless_false c a w).mono fun _ _ h => ⟨h.1, h.2.symm⟩

/-- A scanner's own block alone: it has n bytes, k of them are read. -/
def Hd (w : World) (p n k : Nat) : Prop := ∃ A cap, Whole w p 131 #[.slice A n cap, .int .i64 k] ∧ n ≤ cap ∧ cap ≤ maxLen ∧ k ≤ n
theorem Sc.hd {w : World} {p : Nat} {l : List UInt8} {k : Nat} (h : Sc w p l k) : Hd w p l.length k := by
  obtain ⟨A, cap, h1, _, h3, h4, h5⟩ := h
  exact ⟨A, cap, h1, h3, h4, h5⟩
theorem Hd.grown {w w' : World} {p n k : Nat} {row : Option Nat} (h : Hd w p n k) (hg : w.grownBy w' row) (hr : some p ≠ row) : Hd w' p n k := by
  obtain ⟨A, cap, h1, h2⟩ := h
  exact ⟨A, cap, h1.grown hg hr, h2⟩
theorem Hd.drewN {w : World} {p n k : Nat} (h : Hd w p n k) (m : Nat) : Hd (w.drewN m) p n k := h
theorem left_hd {w : World} {p n k : Nat} (h : Hd w p n k) :
    Calls Tryd.prog 50 #[.pointer (some ⟨p, 0, none⟩)] w fun e w' => e = .returned (.int .i64 ((n : Int) - k)) ∧ ∃ m, w' = w.drewN m := by
  obtain ⟨A, cap, h1, h2, h3, h4⟩ := h
  unfold maxLen at h3
  have c0 := h1.cell 0
  have c1 := h1.cell 1
  simp only [List.getElem?_toArray, List.getElem?_cons_zero, List.getElem?_cons_succ] at c0 c1
  clear h1
  go_enter Tryd.func50, Tryd.ntmps50
  go_wp2
  go_quiet (fail)
  go_wp2
  go_ret
  exact ⟨rfl, _, rfl⟩
theorem left_any {w : World} {p : Nat} {l : List UInt8} {k : Nat} (h : Sc w p l k) :
    Calls Tryd.prog 50 #[.pointer (some ⟨p, 0, none⟩)] w fun e w' => e = .returned (.int .i64 ((l.length : Int) - k)) ∧ ∃ m, w' = w.drewN m := left_hd h.hd
end Go.Proofs.YtebgmfjgapmpfaaDoor

/- take. -/
namespace Go.Proofs.YtebgmfjgapmpfaaDoor
set_option maxRecDepth 100000
open Go.RowKit
set_option linter.unusedVariables false

/-- s[k:k+n]. -/
theorem cut_run (A : Option Addr) (len cap k n : Nat) (h1 : k + n ≤ len) (h2 : len ≤ cap) :
    ∃ A', (∀ w, (Instr.slice 26 (.slice A len cap) (some (.int .i64 (k : Int))) (some (.int .i64 ((k : Int) + n))) none).run Tryd.prog w = .ok (.slice A' n (cap - k)) w) ∧
      (∀ w B (l : List Int), Lies w B A (cells l) → Lies w B A' (cells ((l.drop k).take n))) := by
  have hr : ∀ w, _ := fun w => run_slice_lh (P := Tryd.prog) w 26 A len cap Tryd.underlying26 .i64 .i64 (k : Int) ((k : Int) + n) (by omega) (by omega) (by omega)
  have hz : ∀ w, (sizeOf (Tryd.prog.elem 26)).run Tryd.prog w = .ok 1 w := fun w => by kernel_rfl
  have e1 : (k : Int).toNat = k := by omega
  have e2 : ((k : Int) + n).toNat = k + n := by omega
  have e3 : k + n - k = n := by omega
  by_cases hk : cap = k
  · refine ⟨A, fun w => ?_, fun w B l _ => ?_⟩
    · rw [hr w, hz w, e1, e2]
      simp [Result.andThen, sliced, e3, hk]
    · have : n = 0 := by omega
      subst this
      simp [cells]
      exact Lies.nil
  · refine ⟨A.map (·.add k), fun w => ?_, fun w B l hl => ?_⟩
    · rw [hr w, hz w, e1, e2]
      simp [Result.andThen, sliced, e3, hk]
    · have hc := (hl.cut k).take n
      have e : A.map (·.add k) = A.map (fun a => ⟨a.block, a.off + k, none⟩) ∨ (cells l).length = 0 := by
        by_cases h0 : (cells l).length = 0
        · exact .inr h0
        · obtain ⟨b, off, rfl, _⟩ := hl.at_ (i := 0) (by omega)
          left
          simp [Go.WideShapes.add_plain]
      have ec : cells ((l.drop k).take n) = ((cells l).drop k).take n := by simp [cells, List.map_drop, List.map_take]
      rw [ec]
      rcases e with e | e
      · rw [e]; exact hc
      · have : cells l = [] := List.eq_nil_of_length_eq_zero e
        rw [this]; simp
        exact Lies.nil

/-- What take hands back: n bytes that lie below the scanner. -/
def Took (p : Nat) (l : List UInt8) (k n : Nat) (w : World) (e : Ending) (w' : World) : Prop :=
  ∃ A c, e = .returned (.slice A n c) ∧ n ≤ c ∧ c ≤ maxLen ∧ Lies w' p A (cells (nums ((l.drop k).take n))) ∧ Sc w' p l (k + n) ∧ w.grownBy w' (some p)

set_option maxHeartbeats 800000 in
theorem take_ok {w : World} {p : Nat} {l : List UInt8} {k : Nat} (h : Sc w p l k) (n : Nat) (hn : k + n ≤ l.length) :
    Calls Tryd.prog 128 #[.pointer (some ⟨p, 0, none⟩), .int .i64 n] w (Took p l k n w) := by
  have hle := h.le
  have HL := Lib.hid (fun m => left_any (h.drewN m))
  have HS := Lib.hid h
  have c1 := h.at
  have f1 := h.free
  clear h
  have d1 : (0 : Int) ≤ n := by omega
  have d2 : (n : Int) ≤ (l.length : Int) - k := by omega
  have d3 : (k : Int) + n ≤ 9223372036854775807 := by omega
  go_enter Tryd.func128, Tryd.ntmps128
  go_wp2_with (go_at_call 80; go_must ((with_reducible refine (unlessT _ _ _).mono ?_); rintro e w' ⟨rfl, rfl⟩))
  go_quiet (first
    | (go_at_call 50; exact Calls.quiet_of (HL.out _))
    | (go_at_call 80; exact (unlessT _ _ _).mono fun _ _ h => ⟨h.1, _, h.2.symm⟩))
  go_wp2
  obtain ⟨hs2, hg2⟩ := HS.out.moved nq ((k : Int) + n) (k + n) (by omega) hn
  generalize (w.drewN nq).setCell ⟨p, 1, none⟩ (.int .i64 ((k : Int) + n)) = W at *
  obtain ⟨A, cap, c0', hlies, hc, hm⟩ := hs2.data
  have c1' := hs2.at
  rw [show ((k + n : Nat) : Int) = (k : Int) + n by omega] at c1'
  obtain ⟨A', hcut, hcl⟩ := cut_run A l.length cap k n hn hc
  have HLI := Lib.hid (hcl W p (nums l) hlies)
  have HS2 := Lib.hid hs2
  have HG2 := Lib.hid hg2
  clear hlies hs2 hg2 c1 f1 hcl
  go_quiet (fail)
  go_wp2
  go_ret
  exact ⟨A', cap - k, rfl, by omega, by omega, by have := HLI.out; unfold nums at *; rw [List.map_take, List.map_drop]; exact this, HS2.out.drewN _, gb_drewN HG2.out _⟩
/-- An error that take tells. -/
def Failed (p : Nat) (c : Int) (k : Nat) (w : World) (e : Ending) (w' : World) : Prop := e = .panicked (stopP c k) ∧ w.grownBy w' (some p)
theorem take_neg {w : World} {p : Nat} {l : List UInt8} {k : Nat} (h : Sc w p l k) (n : Int) (hn : n < 0) :
    Calls Tryd.prog 128 #[.pointer (some ⟨p, 0, none⟩), .int .i64 n] w (Failed p 1 k w) := by
  have c1 := h.at
  have d1 : ¬ 0 ≤ n := by omega
  have d2 : decide (0 ≤ n) = false := by simpa using hn
  clear h
  go_enter Tryd.func128, Tryd.ntmps128
  go_wp2_with (go_at_call 80; go_must ((with_reducible refine (unlessF _ _ _).mono ?_); rintro e w' ⟨rfl, rfl⟩))
  exact ⟨rfl, rfl, gb_refl _ _⟩
theorem left_held {w W : World} {p : Nat} {l : List UInt8} {k : Nat} (h : (Sc W p l k ∧ w.grownBy W (some p)) ∧ W.cell? ⟨p, 1, none⟩ = some (.int .i64 k)) :
    Calls Tryd.prog 50 #[.pointer (some ⟨p, 0, none⟩)] W fun e w' => e = .returned (.int .i64 ((l.length : Int) - k)) ∧ (Sc w' p l k ∧ w.grownBy w' (some p)) ∧ w'.cell? ⟨p, 1, none⟩ = some (.int .i64 k) :=
  (left_any h.1.1).mono fun _ _ ⟨h1, m, h2⟩ => ⟨h1, by subst h2; exact ⟨⟨h.1.1.drewN m, gb_drewN h.1.2 m⟩, h.2⟩⟩
set_option maxHeartbeats 800000 in
theorem take_short {w : World} {p : Nat} {l : List UInt8} {k : Nat} (h : Sc w p l k) (n : Nat) (hn : l.length < k + n) :
    Calls Tryd.prog 128 #[.pointer (some ⟨p, 0, none⟩), .int .i64 n] w (Failed p 2 k w) := by
  have hle := h.le
  have HS := Lib.hid h
  have c1 := h.at
  clear h
  have d1 : (0 : Int) ≤ n := by omega
  have d2 : ¬ (n : Int) ≤ (l.length : Int) - k := by omega
  have d3 : decide ((n : Int) ≤ (l.length : Int) - k) = false := by simpa using d2
  go_enter Tryd.func128, Tryd.ntmps128
  go_wp2_with (go_at_call 80; go_must ((with_reducible refine (unlessT _ _ _).mono ?_); rintro e w' ⟨rfl, rfl⟩))
  refine wp_region_held_drew (S := fun W => (Sc W p l k ∧ w.grownBy W (some p)) ∧ W.cell? ⟨p, 1, none⟩ = some (.int .i64 k)) (by kernel_rfl) ⟨⟨HS.out, gb_drew (gb_refl _ _)⟩, c1⟩ (fun hHeld => ?_)
  (refine wpAnyH_take (i := 0) (oi := { dst := some 13, op := Op.move (Operand.tmp 1), type := 3, pos := "scan.go:44", after := #[], guard := none }) (v := ?_) rfl (by kernel_rfl) (by kernel_rfl) (by kernel_rfl) (fun _ _ _ h => h) ?_ (by assumption) ?_; rotate_left; focus (refine .inl ⟨by kernel_rfl, ?_⟩; intro w hSw; (try dsimp only at hSw); go_simp; (try with_reducible rfl)); (try simp only [Act.put, List.setIfInBounds_toArray, List.set_cons_zero, List.set_cons_succ]))
  (refine wpAnyH_take (i := 1) (oi := { dst := some 14, op := Op.move (Operand.tmp 0), type := 51, pos := "scan.go:44", after := #[], guard := none }) (v := ?_) rfl (by kernel_rfl) (by kernel_rfl) (by kernel_rfl) (fun _ _ _ h => h) ?_ (by assumption) ?_; rotate_left; focus (refine .inl ⟨by kernel_rfl, ?_⟩; intro w hSw; (try dsimp only at hSw); go_simp; (try with_reducible rfl)); (try simp only [Act.put, List.setIfInBounds_toArray, List.set_cons_zero, List.set_cons_succ]))
  (refine wpAnyH_take (i := 4) (oi := { dst := some 17, op := Op.move (Operand.tmp 0), type := 51, pos := "scan.go:44", after := #[], guard := none }) (v := ?_) rfl (by kernel_rfl) (by kernel_rfl) (by kernel_rfl) (fun _ _ _ h => h) ?_ (by assumption) ?_; rotate_left; focus (refine .inl ⟨by kernel_rfl, ?_⟩; intro w hSw; (try dsimp only at hSw); go_simp; (try with_reducible rfl)); (try simp only [Act.put, List.setIfInBounds_toArray, List.set_cons_zero, List.set_cons_succ]))
  (refine wpAnyH_take (i := 5) (oi := { dst := some 18, op := Op.nilCheck (Operand.tmp 17), type := 0, pos := "scan.go:44", after := #[{ on := 4, ground := Ground.data }], guard := none }) (v := ?_) rfl (by kernel_rfl) (by kernel_rfl) (by kernel_rfl) (fun _ _ _ h => h) ?_ (by assumption) ?_; rotate_left; focus (refine .inl ⟨by kernel_rfl, ?_⟩; intro w hSw; (try dsimp only at hSw); go_simp; (try with_reducible rfl)); (try simp only [Act.put, List.setIfInBounds_toArray, List.set_cons_zero, List.set_cons_succ]))
  (refine wpAnyH_take (i := 6) (oi := { dst := some 19, op := Op.fieldAddr 131 (Operand.tmp 18) 1, type := 0, pos := "scan.go:44", after := #[{ on := 5, ground := Ground.data }], guard := none }) (v := ?_) rfl (by kernel_rfl) (by kernel_rfl) (by kernel_rfl) (fun _ _ _ h => h) ?_ (by assumption) ?_; rotate_left; focus (refine .inl ⟨by kernel_rfl, ?_⟩; intro w hSw; (try dsimp only at hSw); go_simp; (try with_reducible rfl)); (try simp only [Act.put, List.setIfInBounds_toArray, List.set_cons_zero, List.set_cons_succ]))
  (refine wpAnyH_take (i := 7) (oi := { dst := some 20, op := Op.load 3 (Operand.tmp 19), type := 3, pos := "scan.go:44", after := #[{ on := 6, ground := Ground.data }], guard := none }) (v := ?_) rfl (by kernel_rfl) (by kernel_rfl) (by kernel_rfl) (fun _ _ _ h => h) ?_ (by assumption) ?_; rotate_left; focus (refine .inl ⟨by kernel_rfl, ?_⟩; intro w hSw; (try dsimp only at hSw); go_simp; (try with_reducible rfl)); (try simp only [Act.put, List.setIfInBounds_toArray, List.set_cons_zero, List.set_cons_succ]))
  refine wpAnyH_ready (rs := [2]) (by kernel_rfl) (by simp) ?_
  refine AllReadyH.cons (o := { dst := some 15, op := Op.call { callee := Callee.value (Operand.func 50), args := #[Operand.tmp 14], argTypes := #[51] }, type := 3, pos := "scan.go:44", after := #[{ on := 1, ground := Ground.data }], guard := none }) rfl (fun K hK => ?_) AllReadyH.nil
  go_simp
  (go_at_call 50; (with_reducible refine (left_held hHeld).mono ?_); rintro e w' ⟨rfl, hk⟩)
  refine hK.out _ _ hk (fun hHeld2 => ?_)
  clear hK K hHeld
  (try simp only [Act.put, List.setIfInBounds_toArray, List.set_cons_zero, List.set_cons_succ])
  (refine wpAnyH_take (i := 3) (oi := { dst := some 16, op := Op.binOp BinOp.leq 3 (Operand.tmp 13) (Operand.tmp 15) 3, type := 4, pos := "scan.go:44", after := #[{ on := 0, ground := Ground.data }, { on := 2, ground := Ground.data }], guard := none }) (v := ?_) rfl (by kernel_rfl) (by kernel_rfl) (by kernel_rfl) (fun _ _ _ h => h) ?_ (by assumption) ?_; rotate_left; focus (refine .inl ⟨by kernel_rfl, ?_⟩; intro w hSw; (try dsimp only at hSw); go_simp; (try with_reducible rfl)); (try simp only [Act.put, List.setIfInBounds_toArray, List.set_cons_zero, List.set_cons_succ]))
  refine wpAnyH_ready (rs := [8]) (by kernel_rfl) (by simp) ?_
  refine AllReadyH.cons (o := { dst := some 21, op := Op.call { callee := Callee.value (Operand.func 80), args := #[Operand.tmp 16, Operand.const (Value.int IntKind.i64 2), Operand.tmp 20], argTypes := #[4, 29, 3] }, type := 0, pos := "scan.go:44", after := #[{ on := 3, ground := Ground.data }, { on := 7, ground := Ground.data }, { on := 2, ground := Ground.chain }], guard := none }) rfl (fun K hK => ?_) AllReadyH.nil
  go_simp
  (go_at_call 80; (with_reducible refine (unlessF _ _ _).mono ?_); rintro e w' ⟨rfl, rfl⟩; exact ⟨rfl, rfl, hHeld2.1.2⟩)
end Go.Proofs.YtebgmfjgapmpfaaDoor

/- Byte, Sub, End, bytes.Clone, Over. -/
namespace Go.Proofs.YtebgmfjgapmpfaaDoor
set_option maxRecDepth 100000
open Go.RowKit
set_option linter.unusedVariables false

/-- The next byte. -/
def byteR (l : List UInt8) (k : Nat) : Res UInt8 := match l[k]? with
  | some c => .ok c (k + 1)
  | none => .err 2 k
abbrev encB (c : UInt8) : Value := .int .u8 c.toNat

theorem byte_any {w : World} {p : Nat} {l : List UInt8} {k : Nat} (h : Sc w p l k) :
    Calls Tryd.prog 81 #[.pointer (some ⟨p, 0, none⟩)] w (Did encB p l w (byteR l k)) := by
  unfold byteR
  by_cases hk : k < l.length
  · have hc : l[k]? = some l[k] := List.getElem?_eq_getElem hk
    rw [hc]
    have HT := Lib.hid (show Calls Tryd.prog 128 #[.pointer (some ⟨p, 0, none⟩), .int .i64 1] w (Took p l k 1 w) from take_ok h 1 (by omega))
    have HE := Lib.hid (show nums ((l.drop k).take 1) = [(l[k].toNat : Int)] by rw [List.drop_eq_getElem_cons hk]; rfl)
    obtain ⟨c, hcc⟩ : ∃ c, c = l[k] := ⟨_, rfl⟩
    rw [← hcc] at HE ⊢
    clear hc hcc h hk
    go_enter Tryd.func81, Tryd.ntmps81
    go_wp2_with (go_at_call 128; go_must ((with_reducible refine HT.out.mono ?_); rintro e w1 ⟨A, cc, rfl, h1, h2, hl, hs, hg⟩; rw [HE.out] at hl; obtain ⟨b, off, rfl, hb, hcell⟩ := hl.byte (i := 0) rfl; rw [Nat.add_zero] at hcell; have HS := Lib.hid hs; have HG := Lib.hid hg; clear hs hg hl))
    go_ret
    exact ⟨rfl, HS.out, HG.out⟩
  · have hc : l[k]? = none := List.getElem?_eq_none (by omega)
    rw [hc]
    have HT := Lib.hid (show Calls Tryd.prog 128 #[.pointer (some ⟨p, 0, none⟩), .int .i64 1] w (Failed p 2 k w) from take_short h 1 (by omega))
    clear hc h hk
    go_enter Tryd.func81, Tryd.ntmps81
    go_wp2_with (go_at_call 128; go_must ((with_reducible refine HT.out.mono ?_); rintro e w1 ⟨rfl, hg⟩; have HG := Lib.hid hg; clear hg))
    exact ⟨rfl, rfl, HG.out⟩

/-- A scanner of the next n bytes, at a new block. -/
def Subbed (p : Nat) (l : List UInt8) (k n : Nat) (w : World) (e : Ending) (w' : World) : Prop :=
  ∃ q, e = .returned (.pointer (some ⟨q, 0, none⟩)) ∧ w.heap.size ≤ q ∧ Sc w' q ((l.drop k).take n) 0 ∧ Sc w' p l (k + n) ∧ w.grownBy w' (some p)
/-- bytes.Clone of bytes that lie somewhere, one at least. -/
theorem clone_ok {w : World} {A : Option Addr} {cap : Nat} {l : List UInt8} (hl : Lies w w.heap.size A (cells (nums l))) (h0 : 0 < l.length) (hc : l.length ≤ 1000000) :
    Calls Tryd.prog 77 #[.slice A l.length cap] w (BytesL l w) := by
  have hA : ∃ b off, A = some ⟨b, off, none⟩ := by
    obtain ⟨b, off, e, _⟩ := hl.byte (i := 0) (c := ((nums l)[0]'(by rw [nums_length]; exact h0))) (List.getElem?_eq_getElem _)
    exact ⟨b, off, e⟩
  obtain ⟨b, off, rfl⟩ := hA
  have hnil : ∀ w : World, (binOp BinOp.eql 26 (.slice (some ⟨b, off, none⟩) l.length cap) (.slice none 0 0)).run Tryd.prog w = .ok (.bool false) w := fun w => by
    simp only [binOp]
    simp [run_equal_slice_nil w 26 5 _ _ _ Tryd.underlying26]
  have R0 := Lib.hid (Row.made w [] w.heap.size w.heap.size rfl (Nat.le_refl _) (by simp))
  have HL := Lib.hid (hl.below (below_box w (.cells #[] 5)) (Nat.le_refl _))
  clear hl
  go_enter Tryd.func77, Tryd.ntmps77
  go_wp2_with (at_builtin; (refine row_lies rfl _ _ rfl w.heap.size _ _ rfl R0.out _ _ _ _ l rfl rfl HL.out h0 (by simp; omega) (by simp) ?_; intro v2 w2 hr2 hb2; have HR2 := Lib.hid hr2; have HB2 := Lib.hid hb2; clear hr2 hb2))
  go_ret
  exact ⟨_, rfl, HR2.out, (below_box w _).trans HB2.out⟩
/-- A new scanner of bytes that lie somewhere, one at least. -/
def Overs (l : List UInt8) (w : World) (e : Ending) (w' : World) : Prop :=
  ∃ q, e = .returned (.pointer (some ⟨q, 0, none⟩)) ∧ w.heap.size ≤ q ∧ Sc w' q l 0 ∧ Below w.heap.size w w'
theorem over_ok {w : World} {A : Option Addr} {cap : Nat} {l : List UInt8} (hl : Lies w w.heap.size A (cells (nums l))) (h0 : 0 < l.length) (hc : l.length ≤ 1000000) :
    Calls Tryd.prog 29 #[.slice A l.length cap] w (Overs l w) := by
  have HC := Lib.hid (clone_ok (cap := cap) hl h0 hc)
  clear hl
  go_enter Tryd.func29, Tryd.ntmps29
  go_wp2_with (go_at_call 77; go_must ((with_reducible refine HC.out.mono ?_); intro e w1 h; obtain ⟨v, rfl, hr, hb⟩ := h; obtain ⟨A1, c1, rfl, h1, h2, hl1, _⟩ := lies_own hr; have HL := Lib.hid hl1; have H1 := Lib.hid h1; have H2 := Lib.hid h2; have HB := Lib.hid hb; clear hl1 hr h1 h2 hb))
  go_ret
  exact ⟨w1.heap.size, rfl, HB.out.size, ⟨A1, c1, Whole.made _ _ _, HL.out.below (below_box w1 _) (Nat.le_refl _), H1.out, H2.out, by simp⟩, HB.out.trans ((below_box w1 _).mono HB.out.size)⟩

end Go.Proofs.YtebgmfjgapmpfaaDoor

/- leb.ReadUint of any bytes; number, Uint, Index. -/
namespace Go.Proofs.YtebgmfjgapmpfaaDoor
set_option maxRecDepth 100000
open Go.RowKit
set_option linter.unusedVariables false

/-- How many bytes of a varint of n bits go on. -/
noncomputable def onN (l : List UInt8) (k n : Nat) : Nat := (stop_ex ((nums l).drop k) ((n + 6) / 7)).choose
theorem onN_stop (l : List UInt8) (k n : Nat) : Stop ((n + 6) / 7) ((nums l).drop k) (onN l k n) := (stop_ex ((nums l).drop k) ((n + 6) / 7)).choose_spec
/-- A number of n bits. -/
noncomputable def uintR (l : List UInt8) (k n : Nat) : Res Int :=
  if 1 ≤ n ∧ n ≤ 64 then
    if onN l k n = (n + 6) / 7 then .err 3 k else
      match ((nums l).drop k)[onN l k n]? with
      | none => .err 2 k
      | some c => if c / 2 ^ (n - 7 * onN l k n) = 0 then .ok (numU (((nums l).drop k).take (onN l k n)) c) (k + (onN l k n + 1)) else .err 3 k
  else .err 1 k
theorem uintR_err {l : List UInt8} {k n : Nat} {c a : Int} (h : uintR l k n = .err c a) : a = k ∧ (c = 1 ∨ c = 2 ∨ c = 3) := by
  unfold uintR at h
  repeat' split at h
  all_goals first | (injection h with h1 h2; subst h1; subst h2; exact ⟨rfl, by omega⟩) | cases h
theorem nums_wf (l : List UInt8) : ∀ c ∈ nums l, 0 ≤ c ∧ c ≤ 255 := by
  intro c hc
  obtain ⟨b, _, rfl⟩ := List.mem_map.1 hc
  have := b.toNat_lt
  omega
theorem uintR_ok {l : List UInt8} {k n : Nat} {v : Int} {k' : Nat} (h : uintR l k n = .ok v k') : k' ≤ l.length ∧ 0 ≤ v ∧ v < 2 ^ n := by
  have hp := onN_stop l k n
  unfold uintR at h
  by_cases h64 : 1 ≤ n ∧ n ≤ 64
  · rw [if_pos h64] at h
    by_cases h1 : onN l k n = (n + 6) / 7
    · rw [if_pos h1] at h; cases h
    · rw [if_neg h1] at h
      cases hpc : ((nums l).drop k)[onN l k n]? with
      | none => rw [hpc] at h; cases h
      | some c =>
        rw [hpc] at h
        by_cases hf : c / 2 ^ (n - 7 * onN l k n) = 0
        · simp only [if_pos hf] at h
          injection h with e1 e2
          subst e1; subst e2
          have hlen := (List.getElem?_eq_some_iff.1 hpc).1
          rw [List.length_drop, nums_length] at hlen
          have hl : (((nums l).drop k).take (onN l k n)).length = onN l k n := by rw [List.length_take, List.length_drop, nums_length]; omega
          obtain ⟨l0, l1⟩ := low_bd (((nums l).drop k).take (onN l k n))
          rw [hl] at l1
          have hM := hp.leM
          have c0 := (nums_wf l c (List.mem_of_mem_drop (List.mem_of_getElem? hpc))).1
          have := bdU l0 l1 c0 (b := n) (by omega) hf
          unfold numU
          rw [hl]
          exact ⟨by omega, this.1, this.2⟩
        · simp only [if_neg hf] at h; cases h
  · rw [if_neg h64] at h; cases h
/-- What leb.ReadUint hands back. -/
def readT : Res Int → Value
  | .ok v k => .tuple #[.int .u64 v, .int .i64 k, .int .i64 0]
  | .err c _ => .tuple #[.int .u64 0, .int .i64 0, .int .i64 c]
theorem readU_any {w : World} {B : Nat} {A : Option Addr} {cap : Nat} {l : List UInt8} (hl : Lies w B A (cells (nums l))) (hc : l.length ≤ cap) (hm : cap ≤ maxLen) (k n : Nat) (hk : k ≤ l.length) :
    Calls Tryd.prog 161 #[.slice A l.length cap, .int .i64 k, .int .i64 n] w fun x w' => x = .returned (readT (uintR l k n)) ∧ w = w' := by
  have hlen := nums_length l
  have hb := nums_wf l
  have hp := onN_stop l k n
  have hpM := hp.leM
  have hpR := hp.leR
  rw [List.length_drop, hlen] at hpR
  rw [← hlen] at hc hk ⊢
  unfold uintR
  by_cases h64 : 1 ≤ n ∧ n ≤ 64
  · rw [if_pos h64]
    obtain ⟨n1, n2⟩ := h64
    by_cases h1 : onN l k n = (n + 6) / 7
    · rw [if_pos h1]
      refine ru_fail _ _ _ 3 w (.inr (.inr rfl)) ?_
      have := length_right (nums l) A cap B k n _ w hl hb hc hm hk n1 n2 hp
      unfold lenN lenE at this
      rwa [if_pos h1, if_pos h1] at this
    · rw [if_neg h1]
      by_cases h2 : onN l k n = (nums l).length - k
      · have e : ((nums l).drop k)[onN l k n]? = none := List.getElem?_eq_none (by rw [List.length_drop]; omega)
        rw [e]
        refine ru_fail _ _ _ 2 w (.inr (.inl rfl)) ?_
        have := length_right (nums l) A cap B k n _ w hl hb hc hm hk n1 n2 hp
        unfold lenN lenE at this
        rwa [if_neg h1, if_neg h1, if_pos h2, if_pos h2] at this
      · obtain ⟨c, hpc⟩ : ∃ c, ((nums l).drop k)[onN l k n]? = some c := ⟨_, List.getElem?_eq_getElem (by rw [List.length_drop]; omega)⟩
        rw [hpc]
        by_cases hf : c / 2 ^ (n - 7 * onN l k n) = 0
        · simp only [if_pos hf]
          exact ru_ok (nums l) A cap B k n _ c w hl hb hc hm hk n1 n2 hp (by omega) hpc hf
        · simp only [if_neg hf]
          exact ru_far (nums l) A cap B k n _ c w hl hb hc hm hk n1 n2 hp (by omega) hpc hf
  · rw [if_neg h64]
    exact ru_fail _ _ _ 1 w (.inl rfl) (length_wrong (nums l) A cap _ _ w (by omega))
abbrev enc64 (v : Int) : Value := .int .u64 v
set_option maxHeartbeats 800000 in
theorem number_scan {w : World} {p : Nat} {l : List UInt8} {k : Nat} (h : Sc w p l k) (n : Nat) :
    Calls Tryd.prog 160 #[.pointer (some ⟨p, 0, none⟩), .int .i64 n, .func (.func 161) #[] #[]] w (Did enc64 p l w (uintR l k n)) := by
  have c1 := h.at
  obtain ⟨A, cap, c0, hl, hc, hm⟩ := h.data
  have hU : ∀ m, _ := fun m => readU_any (w := w.drewN m) hl hc hm k n h.le.1
  cases hr : uintR l k n with
  | ok v k' =>
    simp only [hr, readT] at hU
    have HU := Lib.hid hU
    have HS := Lib.hid h
    have f1 := h.free
    have HK := Lib.hid (uintR_ok hr).1
    clear hU hr hl h
    go_enter Tryd.func160, Tryd.ntmps160
    go_wp2
    go_quiet (first
      | (go_at_call 161; exact (HU.out _).mono fun _ _ h => ⟨h.1, _, h.2.symm⟩))
    go_wp2_with (go_at_call 80; go_must ((with_reducible refine (unlessT _ _ _).mono ?_); rintro e w' ⟨rfl, rfl⟩))
    go_ret
    exact ⟨rfl, HS.out.moved nq k' k' rfl HK.out⟩
  | err c a =>
    simp only [hr, readT] at hU
    have HU := Lib.hid hU
    obtain ⟨rfl, hcs⟩ := uintR_err hr
    have e2 : (c == 0) = false := by simp; omega
    clear hU hr hl h hcs
    go_enter Tryd.func160, Tryd.ntmps160
    go_wp2
    go_quiet (first
      | (go_at_call 161; exact (HU.out _).mono fun _ _ h => ⟨h.1, _, h.2.symm⟩))
    go_wp2_with (go_at_call 80; go_must ((with_reducible refine (unlessF _ _ _).mono ?_); rintro e w' ⟨rfl, rfl⟩))
    exact ⟨rfl, rfl, gb_drewN (gb_refl _ _) _⟩
/-- Scanner.Uint. -/
theorem uint_scan {w : World} {p : Nat} {l : List UInt8} {k : Nat} (h : Sc w p l k) (n : Nat) :
    Calls Tryd.prog 152 #[.pointer (some ⟨p, 0, none⟩), .int .i64 n] w (Did enc64 p l w (uintR l k n)) := by
  have hN := number_scan h n
  cases hr : uintR l k n with
  | ok v k' =>
    rw [hr] at hN
    have HN := Lib.hid hN
    clear hN hr h
    go_enter Tryd.func152, Tryd.ntmps152
    go_wp2_with (go_at_call 160; go_must ((with_reducible refine HN.out.mono ?_); rintro e w1 ⟨rfl, hs, hg⟩; have HS := Lib.hid hs; have HG := Lib.hid hg; clear hs hg))
    go_ret
    exact ⟨rfl, HS.out, HG.out⟩
  | err c a =>
    rw [hr] at hN
    have HN := Lib.hid hN
    clear hN hr h
    go_enter Tryd.func152, Tryd.ntmps152
    go_wp2_with (go_at_call 160; go_must ((with_reducible refine HN.out.mono ?_); rintro e w1 ⟨rfl, hg⟩; have HG := Lib.hid hg; clear hg))
    exact ⟨rfl, rfl, HG.out⟩
/-- A number of 32 bits. -/
noncomputable def indexR (l : List UInt8) (k : Nat) : Res Int := uintR l k 32
abbrev enc32 (v : Int) : Value := .int .u32 v
theorem index_scan {w : World} {p : Nat} {l : List UInt8} {k : Nat} (h : Sc w p l k) :
    Calls Tryd.prog 139 #[.pointer (some ⟨p, 0, none⟩)] w (Did enc32 p l w (indexR l k)) := by
  have hN : Calls Tryd.prog 152 #[.pointer (some ⟨p, 0, none⟩), .int .i64 32] w (Did enc64 p l w (uintR l k 32)) := uint_scan h 32
  unfold indexR
  cases hr : uintR l k 32 with
  | ok v k' =>
    rw [hr] at hN
    have HN := Lib.hid hN
    obtain ⟨hk, v0, v1⟩ := uintR_ok hr
    have v2 : v < 4294967296 := v1
    have hw : IntKind.u32.wrap v = v := by simp [IntKind.wrap, IntKind.bits, IntKind.signed]; omega
    clear hN hr h v1
    go_enter Tryd.func139, Tryd.ntmps139
    go_wp2_with (go_at_call 152; go_must ((with_reducible refine HN.out.mono ?_); rintro e w1 ⟨rfl, hs, hg⟩; have HS := Lib.hid hs; have HG := Lib.hid hg; clear hs hg))
    go_ret
    exact ⟨rfl, HS.out, HG.out⟩
  | err c a =>
    rw [hr] at hN
    have HN := Lib.hid hN
    clear hN hr h
    go_enter Tryd.func139, Tryd.ntmps139
    go_wp2_with (go_at_call 152; go_must ((with_reducible refine HN.out.mono ?_); rintro e w1 ⟨rfl, hg⟩; have HG := Lib.hid hg; clear hg))
    exact ⟨rfl, rfl, HG.out⟩
end Go.Proofs.YtebgmfjgapmpfaaDoor

/- atMost, Count, flag, tag, ValType. -/
namespace Go.Proofs.YtebgmfjgapmpfaaDoor
set_option maxRecDepth 100000
open Go.RowKit
set_option linter.unusedVariables false

abbrev encI (v : Int) : Value := .int .i64 v
abbrev encO (v : Bool) : Value := .bool v
abbrev encU (v : Unit) : Value := .tuple #[]
theorem Res.bind_ok {α β : Type} (v : α) (k : Nat) (f : α → Nat → Res β) : (Res.ok v k).bind f = f v k := rfl
theorem Res.bind_err {α β : Type} (c a : Int) (f : α → Nat → Res β) : (Res.err (α := α) c a).bind f = .err c a := rfl

/-- An index that is at most m. -/
noncomputable def atMostR (l : List UInt8) (k : Nat) (m c : Int) : Res Int := (indexR l k).bind fun v k' => if v ≤ m then .ok v k' else .err c k
theorem atMost_scan {w : World} {p : Nat} {l : List UInt8} {k : Nat} (h : Sc w p l k) (m c : Int) :
    Calls Tryd.prog 159 #[.pointer (some ⟨p, 0, none⟩), .int .u32 m, .int .i64 c] w (Did encI p l w (atMostR l k m c)) := by
  have hN := index_scan h
  have c1 := h.at
  unfold atMostR
  cases hr : indexR l k with
  | ok v k' =>
    rw [hr] at hN
    rw [Res.bind_ok]
    have HN := Lib.hid hN
    obtain ⟨hk, v0, v1⟩ := uintR_ok (show uintR l k 32 = .ok v k' from hr)
    have v2 : v < 4294967296 := v1
    have hw : IntKind.i64.wrap v = v := by rw [IntKind.wrap_i64]; omega
    clear hN hr h v1
    by_cases hm : v ≤ m
    · rw [if_pos hm]
      have HM := Lib.hid hm
      have d1 : decide (v ≤ m) = true := by simpa using hm
      go_enter Tryd.func159, Tryd.ntmps159
      go_wp2_with (first
        | (go_at_call 139; go_must ((with_reducible refine HN.out.mono ?_); rintro e w1 ⟨rfl, hs, hg⟩; have HS := Lib.hid hs; have HG := Lib.hid hg; clear hs hg))
        | (go_at_call 80; go_must ((with_reducible refine (unlessT _ _ _).mono ?_); rintro e w' ⟨rfl, rfl⟩)))
      go_ret
      exact ⟨rfl, HS.out, HG.out⟩
    · rw [if_neg hm]
      have HM := Lib.hid hm
      have d1 : decide (v ≤ m) = false := by simpa using hm
      clear hm
      go_enter Tryd.func159, Tryd.ntmps159
      go_wp2_with (first
        | (go_at_call 139; go_must ((with_reducible refine HN.out.mono ?_); rintro e w1 ⟨rfl, hs, hg⟩; have HS := Lib.hid hs; have HG := Lib.hid hg; clear hs hg))
        | (go_at_call 80; go_must ((with_reducible refine (unlessF _ _ _).mono ?_); rintro e w' ⟨rfl, rfl⟩)))
      exact ⟨rfl, rfl, HG.out⟩
  | err c2 a =>
    rw [hr] at hN
    rw [Res.bind_err]
    have HN := Lib.hid hN
    clear hN hr h
    go_enter Tryd.func159, Tryd.ntmps159
    go_wp2_with (go_at_call 139; go_must ((with_reducible refine HN.out.mono ?_); rintro e w1 ⟨rfl, hg⟩; have HG := Lib.hid hg; clear hg))
    exact ⟨rfl, rfl, HG.out⟩
/-- How many things follow. -/
noncomputable def countR (l : List UInt8) (k : Nat) : Res Int := atMostR l k 10000 29
theorem count_scan {w : World} {p : Nat} {l : List UInt8} {k : Nat} (h : Sc w p l k) :
    Calls Tryd.prog 151 #[.pointer (some ⟨p, 0, none⟩)] w (Did encI p l w (countR l k)) := by
  have hN := atMost_scan h 10000 29
  unfold countR
  cases hr : atMostR l k 10000 29 with
  | ok v k' =>
    rw [hr] at hN
    have HN := Lib.hid hN
    clear hN hr h
    go_enter Tryd.func151, Tryd.ntmps151
    go_wp2_with (go_at_call 159; go_must ((with_reducible refine HN.out.mono ?_); rintro e w1 ⟨rfl, hs, hg⟩; have HS := Lib.hid hs; have HG := Lib.hid hg; clear hs hg))
    go_ret
    exact ⟨rfl, HS.out, HG.out⟩
  | err c2 a =>
    rw [hr] at hN
    have HN := Lib.hid hN
    clear hN hr h
    go_enter Tryd.func151, Tryd.ntmps151
    go_wp2_with (go_at_call 159; go_must ((with_reducible refine HN.out.mono ?_); rintro e w1 ⟨rfl, hg⟩; have HG := Lib.hid hg; clear hg))
    exact ⟨rfl, rfl, HG.out⟩

/-- A byte that is 0 or 1. -/
def flagR (l : List UInt8) (k : Nat) : Res Bool := (byteR l k).bind fun c k' => if (c.toNat : Int) ≤ 1 then .ok ((c.toNat : Int) == 1) k' else .err 10 k
theorem flag_scan {w : World} {p : Nat} {l : List UInt8} {k : Nat} (h : Sc w p l k) :
    Calls Tryd.prog 135 #[.pointer (some ⟨p, 0, none⟩)] w (Did encO p l w (flagR l k)) := by
  have hN := byte_any h
  have c1 := h.at
  unfold flagR
  cases hr : byteR l k with
  | ok c k' =>
    rw [hr] at hN
    rw [Res.bind_ok]
    have HN := Lib.hid hN
    clear hN hr h
    by_cases hm : (c.toNat : Int) ≤ 1
    · rw [if_pos hm]
      have d1 : decide ((c.toNat : Int) ≤ 1) = true := by simpa using hm
      have d2 : decide (c.toNat ≤ 1) = true := by simp; omega
      clear hm
      go_enter Tryd.func135, Tryd.ntmps135
      go_wp2_with (first
        | (go_at_call 81; go_must ((with_reducible refine HN.out.mono ?_); rintro e w1 ⟨rfl, hs, hg⟩; have HS := Lib.hid hs; have HG := Lib.hid hg; clear hs hg))
        | (go_at_call 80; go_must ((with_reducible refine (unlessT _ _ _).mono ?_); rintro e w' ⟨rfl, rfl⟩)))
      go_ret
      exact ⟨rfl, HS.out, HG.out⟩
    · rw [if_neg hm]
      have d1 : decide ((c.toNat : Int) ≤ 1) = false := by simpa using hm
      have d2 : decide (c.toNat ≤ 1) = false := by simp; omega
      clear hm
      go_enter Tryd.func135, Tryd.ntmps135
      go_wp2_with (first
        | (go_at_call 81; go_must ((with_reducible refine HN.out.mono ?_); rintro e w1 ⟨rfl, hs, hg⟩; have HS := Lib.hid hs; have HG := Lib.hid hg; clear hs hg))
        | (go_at_call 80; go_must ((with_reducible refine (unlessF _ _ _).mono ?_); rintro e w' ⟨rfl, rfl⟩)))
      exact ⟨rfl, rfl, HG.out⟩
  | err c2 a =>
    rw [hr] at hN
    rw [Res.bind_err]
    have HN := Lib.hid hN
    clear hN hr h
    go_enter Tryd.func135, Tryd.ntmps135
    go_wp2_with (go_at_call 81; go_must ((with_reducible refine HN.out.mono ?_); rintro e w1 ⟨rfl, hg⟩; have HG := Lib.hid hg; clear hg))
    exact ⟨rfl, rfl, HG.out⟩

/-- A byte that can only be one. -/
def tagR (l : List UInt8) (k : Nat) (t : Int) : Res Unit := (byteR l k).bind fun c k' => if (c.toNat : Int) = t then .ok () k' else .err 7 k
/-- A type of values. -/
def valR (l : List UInt8) (k : Nat) : Res UInt8 := (byteR l k).bind fun c k' => if valueZ c.toNat = 0 then .ok c k' else .err (valueZ c.toNat) k
theorem val_scan {w : World} {p : Nat} {l : List UInt8} {k : Nat} (h : Sc w p l k) :
    Calls Tryd.prog 134 #[.pointer (some ⟨p, 0, none⟩)] w (Did encB p l w (valR l k)) := by
  have hN := byte_any h
  have c1 := h.at
  unfold valR
  cases hr : byteR l k with
  | ok c k' =>
    rw [hr] at hN
    rw [Res.bind_ok]
    have HN := Lib.hid hN
    have HV := Lib.hid (fun w => value_any (c.toNat : Int) w)
    obtain ⟨z, hz⟩ : ∃ z, z = valueZ c.toNat := ⟨_, rfl⟩
    rw [← hz] at HV ⊢
    clear hN hr h hz
    by_cases hm : z = 0
    · rw [if_pos hm]
      subst hm
      go_enter Tryd.func134, Tryd.ntmps134
      go_wp2_with (first
        | (go_at_call 81; go_must ((with_reducible refine HN.out.mono ?_); rintro e w1 ⟨rfl, hs, hg⟩; have HS := Lib.hid hs; have HG := Lib.hid hg; clear hs hg))
        | (go_at_call 88; go_must ((with_reducible refine (HV.out _).mono ?_); rintro e w' ⟨rfl, rfl⟩))
        | (go_at_call 80; go_must ((with_reducible refine (unlessT _ _ _).mono ?_); rintro e w' ⟨rfl, rfl⟩)))
      go_ret
      exact ⟨rfl, HS.out, HG.out⟩
    · rw [if_neg hm]
      have d1 : (z == 0) = false := by simpa using hm
      clear hm
      go_enter Tryd.func134, Tryd.ntmps134
      go_wp2_with (first
        | (go_at_call 81; go_must ((with_reducible refine HN.out.mono ?_); rintro e w1 ⟨rfl, hs, hg⟩; have HS := Lib.hid hs; have HG := Lib.hid hg; clear hs hg))
        | (go_at_call 88; go_must ((with_reducible refine (HV.out _).mono ?_); rintro e w' ⟨rfl, rfl⟩))
        | (go_at_call 80; go_must ((with_reducible refine (unlessF _ _ _).mono ?_); rintro e w' ⟨rfl, rfl⟩)))
      exact ⟨rfl, rfl, HG.out⟩
  | err c2 a =>
    rw [hr] at hN
    rw [Res.bind_err]
    have HN := Lib.hid hN
    clear hN hr h
    go_enter Tryd.func134, Tryd.ntmps134
    go_wp2_with (go_at_call 81; go_must ((with_reducible refine HN.out.mono ?_); rintro e w1 ⟨rfl, hg⟩; have HG := Lib.hid hg; clear hg))
    exact ⟨rfl, rfl, HG.out⟩
end Go.Proofs.YtebgmfjgapmpfaaDoor

/- valTypes. -/
namespace Go.Proofs.YtebgmfjgapmpfaaDoor
set_option maxRecDepth 100000
open Go.RowKit
set_option linter.unusedVariables false

abbrev encS (t : List UInt8) : Value := .string (S t)
/-- n more types, behind those that were read. -/
def valsK (l : List UInt8) : Nat → Nat → List UInt8 → Res (List UInt8)
  | 0, k, acc => .ok acc k
  | n + 1, k, acc => (valR l k).bind fun c k' => valsK l n k' (acc ++ [c])
/-- How many types there are, and these. -/
noncomputable def valsR (l : List UInt8) (k : Nat) : Res (List UInt8) := (countR l k).bind fun n k' => valsK l n.toNat k' []
theorem valsK_more {l : List UInt8} {n i k : Nat} {acc : List UInt8} (h : i < n) : valsK l (n - i) k acc = (valR l k).bind fun c k' => valsK l (n - (i + 1)) k' (acc ++ [c]) := by
  rw [show n - i = n - (i + 1) + 1 by omega]
  rfl
theorem countR_ok {l : List UInt8} {k : Nat} {v : Int} {k' : Nat} (h : countR l k = .ok v k') : 0 ≤ v ∧ v ≤ 10000 := by
  unfold countR atMostR at h
  cases hr : indexR l k with
  | ok u q =>
    rw [hr, Res.bind_ok] at h
    have hb := uintR_ok (show uintR l k 32 = .ok u q from hr)
    by_cases hm : u ≤ 10000
    · rw [if_pos hm] at h; injection h with h1 h2; omega
    · rw [if_neg hm] at h; cases h
  | err c a => rw [hr, Res.bind_err] at h; cases h

/-- Cells that are made, of one kind. -/
theorem made_one (v : Value) (n : Nat) : madeCells #[v] n = Array.replicate n v := by
  apply Array.ext
  · simp [madeCells]
  · intro i h1 h2
    simp [madeCells, Nat.mod_one]
theorem make_bytes (n : Nat) (hn : n ≤ 100000) (w : World) : (Instr.makeSlice 26 (.int .i64 (n : Int)) (.int .i64 (n : Int))).run Tryd.prog w = .ok (.slice (some ⟨w.heap.size, 0, none⟩) n n) (w.alloc (.cells (List.replicate n (.int .u8 0)).toArray 5)) := by
  obtain ⟨i0, hi0, hz0, hz1, hz2⟩ := info_parts infoB
  have hr := run_make (P := Tryd.prog) w 26 5 i0 _ Tryd.underlying26 hi0 hz0 .i64 .i64 (n : Int) (n : Int) (by omega) (Int.le_refl _) (by rw [hz2]; omega) (by omega)
  rw [hr, hz1]
  have e : (Value.int IntKind.u8 0).cells = #[.int .u8 0] := rfl
  rw [e, made_one]
  simp
/-- A block of n bytes, of which the first are written. -/
def Part (w : World) (g n : Nat) (acc : List UInt8) : Prop := Whole w g 5 (cells (nums acc) ++ List.replicate (n - acc.length) (Value.int .u8 0)).toArray ∧ acc.length ≤ n
theorem Part.start (w : World) (n : Nat) : Part (w.alloc (.cells (List.replicate n (.int .u8 0)).toArray 5)) w.heap.size n [] := ⟨Whole.made _ _ _, Nat.zero_le _⟩
theorem Part.put {w : World} {g n : Nat} {acc : List UInt8} (h : Part w g n acc) (c : UInt8) (hlt : acc.length < n) : Part (w.setCell ⟨g, acc.length, none⟩ (.int .u8 c.toNat)) g n (acc ++ [c]) := by
  refine ⟨?_, by simp; omega⟩
  have h1 := h.1.put acc.length (.int .u8 c.toNat)
  have e : ((cells (nums acc) ++ List.replicate (n - acc.length) (Value.int .u8 0)).toArray.setIfInBounds acc.length (.int .u8 c.toNat)) = (cells (nums (acc ++ [c])) ++ List.replicate (n - (acc ++ [c]).length) (Value.int .u8 0)).toArray := by
    have hl : (cells (nums acc)).length = acc.length := by rw [cells_length, nums_length]
    have hr : List.replicate (n - acc.length) (Value.int .u8 0) = .int .u8 0 :: List.replicate (n - (acc.length + 1)) (.int .u8 0) := by
      rw [show n - acc.length = n - (acc.length + 1) + 1 by omega]; rfl
    rw [hr, List.setIfInBounds_toArray, List.set_append_right _ _ (by omega), hl, Nat.sub_self, List.set_cons_zero, nums_append]
    simp [cells, nums]
  rw [e] at h1
  exact h1
theorem Part.row {w : World} {g n : Nat} {acc : List UInt8} (h : Part w g n acc) (hn : acc.length = n) (base : Nat) (hb : base ≤ g) (hm : n ≤ 100000) : Row w base (.slice (some ⟨g, 0, none⟩) n n) acc := by
  subst hn
  have h1 := h.1
  rw [Nat.sub_self, List.replicate_zero, List.append_nil] at h1
  have hl : (cells (nums acc)).length = acc.length := by rw [cells_length, nums_length]
  exact ⟨by omega, .inr ⟨g, acc.length, (cells (nums acc)).toArray, rfl, hb, h1, Nat.le_refl _, by unfold maxLen; omega, by simp [hl], by rw [List.take_of_length_le (by simp [hl])]⟩⟩
theorem Part.cell {w : World} {g n : Nat} {acc : List UInt8} (h : Part w g n acc) (hlt : acc.length < n) : ∃ u, w.cell? ⟨g, acc.length, none⟩ = some u := by
  have hl : (cells (nums acc)).length = acc.length := by rw [cells_length, nums_length]
  exact ⟨_, (h.1.cell acc.length).trans (Array.getElem?_eq_getElem (by simp [hl]; omega))⟩
end Go.Proofs.YtebgmfjgapmpfaaDoor

/- FuncType. -/
namespace Go.Proofs.YtebgmfjgapmpfaaDoor
set_option maxRecDepth 100000
open Go.RowKit
set_option linter.unusedVariables false

abbrev encF (x : List UInt8 × List UInt8) : Value := .agg #[.string (S x.1), .string (S x.2)]
/-- A function's type. -/
noncomputable def funcR (l : List UInt8) (k : Nat) : Res (List UInt8 × List UInt8) :=
  (tagR l k 96).bind fun _ k1 => (valsR l k1).bind fun a k2 => (valsR l k2).bind fun b k3 => if funcZ a b = 0 then .ok (a, b) k3 else .err (funcZ a b) k
theorem valsK_len {l : List UInt8} : ∀ (n k : Nat) (acc a : List UInt8) (q : Nat), valsK l n k acc = .ok a q → a.length = acc.length + n
  | 0, k, acc, a, q, h => by injection h with h1 h2; rw [← h1]; rfl
  | n + 1, k, acc, a, q, h => by
    unfold valsK at h
    cases hc : valR l k with
    | ok c q2 =>
      rw [hc, Res.bind_ok] at h
      have := valsK_len n q2 (acc ++ [c]) a q h
      simp at this; omega
    | err c x => rw [hc, Res.bind_err] at h; cases h
theorem valsR_len {l : List UInt8} {k : Nat} {a : List UInt8} {q : Nat} (h : valsR l k = .ok a q) : a.length ≤ 10000 := by
  unfold valsR at h
  cases hc : countR l k with
  | ok v q2 =>
    rw [hc, Res.bind_ok] at h
    have := countR_ok hc
    have := valsK_len _ _ _ _ _ h
    simp at this; omega
  | err c x => rw [hc, Res.bind_err] at h; cases h

end Go.Proofs.YtebgmfjgapmpfaaDoor

/- Limits, Global. -/
namespace Go.Proofs.YtebgmfjgapmpfaaDoor
set_option maxRecDepth 100000
open Go.RowKit
set_option linter.unusedVariables false

/-- Three cells of one block, all written. -/
theorem three_put {w : World} {b : Nat} {t : TypeId} {x y z u v s : Value} (hb : Whole w b t #[x, y, z]) :
    Whole (((w.setCell ⟨b, 0, none⟩ u).setCell ⟨b, 1, none⟩ v).setCell ⟨b, 2, none⟩ s) b t #[u, v, s] ∧ w.grownBy (((w.setCell ⟨b, 0, none⟩ u).setCell ⟨b, 1, none⟩ v).setCell ⟨b, 2, none⟩ s) (some b) :=
  ⟨((hb.put 0 u).put 1 v).put 2 s, gb_put (p := ⟨b, 2, none⟩) (gb_put (p := ⟨b, 1, none⟩) (gb_put (p := ⟨b, 0, none⟩) (gb_refl w _) (.inl rfl) u) (.inl rfl) v) (.inl rfl) s⟩
abbrev encT (x : Int × Int × Bool) : Value := .agg #[.int .u32 x.1, .int .u32 x.2.1, .bool x.2.2]
/-- Limits. -/
noncomputable def limR (l : List UInt8) (k : Nat) : Res (Int × Int × Bool) :=
  (flagR l k).bind fun b k1 => (indexR l k1).bind fun mn k2 => if b then (indexR l k2).bind fun mx k3 => .ok (mn, mx, true) k3 else .ok (mn, 0, false) k2

abbrev encGl (x : UInt8 × Bool) : Value := .agg #[.int .u8 x.1.toNat, .bool x.2]
/-- A global's type. -/
def globR (l : List UInt8) (k : Nat) : Res (UInt8 × Bool) := (valR l k).bind fun t k1 => (flagR l k1).bind fun m k2 => .ok (t, m) k2
set_option maxHeartbeats 1000000 in
theorem global_scan {w : World} {p : Nat} {l : List UInt8} {k : Nat} (h : Sc w p l k) :
    Calls Tryd.prog 90 #[.pointer (some ⟨p, 0, none⟩)] w (Did encGl p l w (globR l k)) := by
  have hlt := h.lt
  have hT := val_scan (h.alloc (.cells #[.int .u8 0, .bool false] 68))
  have HWM := Lib.hid (Whole.made w 68 #[.int .u8 0, .bool false])
  unfold globR
  cases h1 : valR l k with
  | err c a =>
    rw [h1] at hT
    rw [Res.bind_err]
    have HT := Lib.hid hT
    clear hT h1 h
    go_enter Tryd.func90, Tryd.ntmps90
    go_wp2_with (go_at_call 134; go_must ((with_reducible refine HT.out.mono ?_); rintro e w1 ⟨rfl, hg⟩; have HG := Lib.hid hg; clear hg))
    exact ⟨rfl, rfl, gb_trans (gb_alloc (gb_refl w _) _) HG.out⟩
  | ok t k1 =>
    rw [h1] at hT
    rw [Res.bind_ok]
    have HT := Lib.hid hT
    clear hT h1 h
    have V1 := Lib.hid (fun W (hs : Sc W p l k1) => flag_scan hs)
    cases h2 : flagR l k1 with
    | err c a =>
      rw [h2] at V1
      rw [Res.bind_err]
      clear h2
      go_enter Tryd.func90, Tryd.ntmps90
      go_wp2_with (first
        | (go_at_call 134; go_must ((with_reducible refine HT.out.mono ?_); rintro e w1 ⟨rfl, hs, hg⟩; have HS := Lib.hid hs; have HG := Lib.hid hg; clear hs hg))
        | (go_at_call 135; go_must ((with_reducible refine (V1.out _ HS.out).mono ?_); rintro e w2 ⟨rfl, hg⟩; have HG2 := Lib.hid hg; clear hg)))
      exact ⟨rfl, rfl, gb_trans (gb_trans (gb_alloc (gb_refl w _) _) HG.out) HG2.out⟩
    | ok m k2 =>
      rw [h2] at V1
      rw [Res.bind_ok]
      clear h2
      go_enter Tryd.func90, Tryd.ntmps90
      go_wp2_with (first
        | (go_at_call 134; go_must ((with_reducible refine HT.out.mono ?_); rintro e w1 ⟨rfl, hs, hg⟩; have HS := Lib.hid hs; have HG := Lib.hid hg; have HW1 := Lib.hid (HWM.out.grown hg (by simp only [ne_eq, Option.some.injEq]; omega)); clear hs hg))
        | (go_at_call 135; go_must ((with_reducible refine (V1.out _ HS.out).mono ?_); rintro e w2 ⟨rfl, hs, hg⟩; have HS2 := Lib.hid hs; have HG2 := Lib.hid hg; have HW2 := Lib.hid (HW1.out.grown hg (by simp only [ne_eq, Option.some.injEq]; omega)); have g0 := HW2.out.frozen 0; have g1 := HW2.out.frozen 1; have k0 := HW2.out.cell 0; have k1' := HW2.out.cell 1; simp only [List.getElem?_toArray, List.getElem?_cons_zero, List.getElem?_cons_succ] at k0 k1'; clear hs hg)))
      obtain ⟨hW, hG⟩ := two_put (u := .int .u8 t.toNat) (v := .bool m) HW2.out (Below.refl _ _)
      have q0 := hW.cell 0
      have q1 := hW.cell 1
      simp only [List.getElem?_toArray, List.getElem?_cons_zero, List.getElem?_cons_succ] at q0 q1
      have hall := gb_trans (gb_trans (gb_alloc (gb_refl w _) _) HG.out) HG2.out
      refine bodyPost_ret (v := .agg #[.int .u8 t.toNat, .bool m]) (by simp [results, Tryd.results90, go_sem, q0, q1]) rfl ⟨rfl, ?_, ?_⟩
      · exact HS2.out.grown hG (by simp only [ne_eq, Option.some.injEq]; omega) (fun g e => by injection e with e; omega)
      · exact gb_put (p := ⟨w.heap.size, 1, none⟩) (gb_put (p := ⟨w.heap.size, 0, none⟩) hall (.inr (Nat.le_refl _)) _) (.inr (Nat.le_refl _)) _
end Go.Proofs.YtebgmfjgapmpfaaDoor

/- Plain mathematics: the bits of a varint's number, with and without a sign; when it fits. -/
namespace Go.Proofs.YtebgmfjgapmpfaaDoor
open Go.RowKit
set_option linter.unusedVariables false

theorem bit_step (d x : Int) (i : Nat) : bit (d % 128 + 128 * x) (7 + i) = bit x i := by
  rw [← bit_div]
  have e : (d % 128 + 128 * x) / 2 ^ 7 = x := by
    show (d % 128 + 128 * x) / 128 = x
    omega
  rw [e]
theorem bit_byte (d x : Int) (i : Nat) (hi : i < 7) : bit (d % 128 + 128 * x) i = bit d i := by
  unfold bit
  have h : i = 0 ∨ i = 1 ∨ i = 2 ∨ i = 3 ∨ i = 4 ∨ i = 5 ∨ i = 6 := by omega
  have key : (d % 128 + 128 * x) / 2 ^ i % 2 = d / 2 ^ i % 2 := by
    rcases h with rfl | rfl | rfl | rfl | rfl | rfl | rfl <;> simp <;> omega
  rw [key]
theorem bit_low : ∀ (l : List Int) (j i : Nat) (c : Int), i < 7 → l[j]? = some c → bit (low l) (7 * j + i) = bit c i
  | [], j, i, c, _, h => by simp at h
  | d :: r, 0, i, c, hi, h => by
    have : d = c := by simpa using h
    subst this
    rw [Nat.mul_zero, Nat.zero_add]
    exact bit_byte d _ i hi
  | d :: r, j + 1, i, c, hi, h => by
    have ih := bit_low r j i c hi (by simpa using h)
    rw [show 7 * (j + 1) + i = 7 + (7 * j + i) by omega, ← ih]
    exact bit_step d _ _

/-- The number of n bits, m of them known: with a sign, or without. -/
def ext (s : Bool) (N : Int) (m : Nat) : Int := if s && bit N (m - 1) then N - 2 ^ m else N
theorem ext_low (s : Bool) (N : Int) (m j : Nat) (h : j < m) : bit (ext s N m) j = bit N j := by
  unfold ext
  split
  · unfold bit
    have e : (2 : Int) ^ m = 2 ^ j * 2 * 2 ^ (m - j - 1) := by
      rw [show (2 : Int) ^ j * 2 = 2 ^ (j + 1) from (Int.pow_succ 2 j).symm, ← Int.pow_add]; congr 1; omega
    have hp := p2 j
    have e2 : N - 2 ^ m = N + 2 ^ j * (2 * -2 ^ (m - j - 1)) := by rw [e]; generalize (2 : Int) ^ (m - j - 1) = t; generalize (2 : Int) ^ j = u; grind
    rw [e2, Int.add_mul_ediv_left _ _ (Int.ne_of_gt hp)]
    congr 1
    omega
  · rfl
theorem ext_bd (s : Bool) {N : Int} {m : Nat} (hm : 1 ≤ m) (h0 : 0 ≤ N) (h1 : N < 2 ^ m) : -2 ^ m ≤ ext s N m ∧ ext s N m < 2 ^ m := by
  unfold ext
  have := p2 m
  split <;> omega
theorem bit_top {N : Int} {m : Nat} (hm : 1 ≤ m) (h0 : 0 ≤ N) (h1 : N < 2 ^ m) : bit N (m - 1) = decide (2 ^ (m - 1) ≤ N) := by
  have e : (2 : Int) ^ m = 2 * 2 ^ (m - 1) := by rw [show m = m - 1 + 1 by omega, Int.pow_succ, Int.mul_comm]; rfl
  have hp := p2 (m - 1)
  unfold bit
  by_cases h : 2 ^ (m - 1) ≤ N
  · have : N / 2 ^ (m - 1) = 1 := by rw [Int.ediv_eq_iff_of_pos hp]; constructor <;> omega
    rw [this]; simp [h]
  · have : N / 2 ^ (m - 1) = 0 := Int.ediv_eq_zero_of_lt h0 (by omega)
    rw [this]; simp [h]
theorem ext_over (s : Bool) {N : Int} {m : Nat} (hm : 1 ≤ m) (h0 : 0 ≤ N) (h1 : N < 2 ^ m) : ext s N m / 2 ^ m = if s && bit N (m - 1) then -1 else 0 := by
  unfold ext
  split
  · rw [Int.ediv_eq_iff_of_pos (p2 m)]; constructor <;> omega
  · exact Int.ediv_eq_zero_of_lt h0 h1
theorem ext_high (s : Bool) {N : Int} {m : Nat} (hm : 1 ≤ m) (h0 : 0 ≤ N) (h1 : N < 2 ^ m) (j : Nat) (hj : m ≤ j) : bit (ext s N m) j = (s && bit N (m - 1)) :=
  from_same (ext_over s hm h0 h1) j hj

/-- The sign that is asked for above the lowest n bits. -/
def topB (s : Bool) (N : Int) (m n : Nat) : Bool := s && bit N (min n m - 1)
/-- All known bits above the lowest n are the sign. -/
def Good (s : Bool) (N : Int) (m n : Nat) : Prop := ∀ j, n ≤ j → j < m → bit N j = topB s N m n

theorem good_ext {s : Bool} {N : Int} {m n : Nat} (hm : 1 ≤ m) (h0 : 0 ≤ N) (h1 : N < 2 ^ m) (hg : Good s N m n) (i : Nat) (hi : n ≤ i ∨ m ≤ i) : bit (ext s N m) i = topB s N m n := by
  rcases Nat.lt_or_ge i m with g | g
  · rw [ext_low s N m i g]; exact hg i (by omega) g
  · rw [ext_high s hm h0 h1 i g]
    rcases Nat.lt_or_ge n m with k | k
    · have h2 := hg (m - 1) (by omega) (by omega)
      rw [h2]
      unfold topB
      cases s <;> simp
    · unfold topB
      rw [Nat.min_eq_right k]
/-- It fits n bits. -/
def Fits (s : Bool) (X : Int) (n : Nat) : Prop := if s then X / 2 ^ (n - 1) = 0 ∨ X / 2 ^ (n - 1) = -1 else X / 2 ^ n = 0
theorem good_fits {s : Bool} {N : Int} {m n : Nat} (hm : 1 ≤ m) (hn : 1 ≤ n) (h0 : 0 ≤ N) (h1 : N < 2 ^ m) : Good s N m n ↔ Fits s (ext s N m) n := by
  obtain ⟨b1, b2⟩ := ext_bd s hm h0 h1
  have mm := mono2 (Nat.le_max_left m n)
  constructor
  · intro hg
    have hx := good_ext hm h0 h1 hg
    cases s
    · have h := same_from (x := ext false N m) (a := n) (b := max m n) (t := false) (by omega) (by omega) (by omega) (fun j hj _ => by rw [hx j (.inl hj)]; simp [topB])
      unfold Fits
      simpa using h
    · have h := same_from (x := ext true N m) (a := n - 1) (b := max m n) (t := topB true N m n) (by omega) (by omega) (by omega) (fun j hj _ => by
        rcases Nat.lt_or_ge j n with g | g
        · obtain rfl : j = n - 1 := by omega
          rcases Nat.lt_or_ge (n - 1) m with k | k
          · rw [ext_low _ _ _ _ k]; unfold topB; rw [Nat.min_eq_left (by omega)]; simp
          · exact hx _ (.inr k)
        · exact hx j (.inl g))
      unfold Fits
      rw [if_pos rfl, h]
      cases topB true N m n <;> simp
  · intro hf j hj hjm
    unfold Fits at hf
    rw [← ext_low s N m j hjm]
    cases s
    · simp only [Bool.false_eq_true, if_false] at hf
      rw [from_same (a := n) (t := false) (by simpa using hf) j hj]; simp [topB]
    · simp only [if_true] at hf
      have hb : ∀ i, n - 1 ≤ i → bit (ext true N m) i = bit (ext true N m) (n - 1) := fun i hi => by
        rcases hf with hf | hf
        · rw [from_same (a := n - 1) (t := false) (by simpa using hf) i hi, from_same (a := n - 1) (t := false) (by simpa using hf) (n - 1) (by omega)]
        · rw [from_same (a := n - 1) (t := true) (by simpa using hf) i hi, from_same (a := n - 1) (t := true) (by simpa using hf) (n - 1) (by omega)]
      rw [hb j (by omega), ext_low true N m (n - 1) (by omega)]
      unfold topB
      rw [Nat.min_eq_left (by omega)]
      simp
end Go.Proofs.YtebgmfjgapmpfaaDoor

/- creelref02.Read. -/
namespace Go.Proofs.YtebgmfjgapmpfaaDoor
open Go.RowKit
set_option linter.unusedVariables false

set_option maxHeartbeats 800000 in
theorem rr_wrong (r : List Int) (A : Option Addr) (cap : Nat) (at_ n : Int) (s : Bool) (w : World) (h : n < 1 ∨ 64 < n ∨ at_ < 0 ∨ (r.length : Int) < at_) :
    Calls Tryd.prog 149 #[.slice A r.length cap, .int .i64 at_, .int .i64 n, .bool s] w fun e w' => e = .returned (.tuple #[.int .u64 0, .int .i64 0, .int .i64 1]) ∧ Below w.heap.size w w' := by
  by_cases n1 : n < 1
  · go_enter Tryd.func149, Tryd.ntmps149
    go_wp2
    go_ret3
    exact ⟨rfl, Below.refl _ _⟩
  · have m1 : 1 ≤ n := by omega
    by_cases n2 : 64 < n
    · go_enter Tryd.func149, Tryd.ntmps149
      go_wp2
      go_ret3
      exact ⟨rfl, Below.refl _ _⟩
    · have d2 : decide (64 < n) = false := by simpa using n2
      by_cases n3 : at_ < 0
      · go_enter Tryd.func149, Tryd.ntmps149
        go_wp2
        go_ret3
        exact ⟨rfl, Below.refl _ _⟩
      · have d3 : decide (at_ < 0) = false := by simpa using n3
        have n4 : (r.length : Int) < at_ := by omega
        go_enter Tryd.func149, Tryd.ntmps149
        go_wp2
        go_ret3
        exact ⟨rfl, Below.refl _ _⟩

set_option maxRecDepth 100000 in
set_option maxHeartbeats 4000000 in
theorem rr_right (r : List Int) (A : Option Addr) (cap B : Nat) (k n p : Nat) (s : Bool) (X Q E : Int) (w : World) (hl : Lies w B A (cells r)) (hB : B ≤ w.heap.size) (hb : ∀ c ∈ r, 0 ≤ c ∧ c ≤ 255) (hc : r.length ≤ cap) (hm : cap ≤ maxLen)
    (hk : k ≤ r.length) (n1 : 1 ≤ n) (n2 : n ≤ 64) (hp : Stop ((n + 6) / 7) (r.drop k) p)
    (res : (p = (n + 6) / 7 ∧ X = 0 ∧ Q = 0 ∧ E = 3) ∨ (p < (n + 6) / 7 ∧ k + p = r.length ∧ X = 0 ∧ Q = 0 ∧ E = 2) ∨
      (p < (n + 6) / 7 ∧ k + p < r.length ∧ ¬ Good s (low ((r.drop k).take (p + 1))) (7 * (p + 1)) n ∧ X = 0 ∧ Q = 0 ∧ E = 3) ∨
      (p < (n + 6) / 7 ∧ k + p < r.length ∧ Good s (low ((r.drop k).take (p + 1))) (7 * (p + 1)) n ∧ X = ext s (low ((r.drop k).take (p + 1))) (7 * (p + 1)) % 2 ^ 64 ∧ Q = k + (p + 1) ∧ E = 0)) :
    Calls Tryd.prog 149 #[.slice A r.length cap, .int .i64 k, .int .i64 n, .bool s] w fun e w' => e = .returned (.tuple #[.int .u64 X, .int .i64 Q, .int .i64 E]) ∧ Below w.heap.size w w' := by
  obtain ⟨i0, hi0, hz0, hz1, hz2⟩ := info_parts infoO
  unfold maxLen at hm
  have hpM := hp.leM
  have hpR := hp.leR
  rw [List.length_drop] at hpR
  have HRES := Lib.hid res
  have HP := Lib.hid hp
  have HL := Lib.hid hl
  have HC := Lib.hid hb
  obtain ⟨N, hN⟩ : ∃ N, N = low ((r.drop k).take (p + 1)) := ⟨_, rfl⟩
  have hbits : ∀ (j i : Nat) (c : Int), j ≤ p → i < 7 → r[k + j]? = some c → bit N (7 * j + i) = bit c i := fun j i c hj hi hc => by
    rw [hN]; exact bit_low _ j i c hi (by rw [List.getElem?_take, if_pos (by omega), List.getElem?_drop]; exact hc)
  have HBI := Lib.hid hbits
  have HN := Lib.hid hN
  have hd : decide (r.length < k) = false := by simpa using hk
  have d2 : decide (64 < (n : Int)) = false := by simp; omega
  have d4 : decide (64 < n) = false := by simp; omega
  have d3 : decide ((k : Int) < 0) = false := by simp
  have hd2 : ¬ r.length < k := by omega
  clear res hp hl hb hN hbits
  go_enter Tryd.func149, Tryd.ntmps149
  go_wp2
  go_loopw [11, 12] (fun l i wr => ∃ j : Nat, j ≤ p ∧ i = .int .i64 j ∧ wr.ownsRow w.heap.size 4 1 l (7 * j) (bools N (7 * j)) ∧ Below w.heap.size w wr) (fun _ i _ => p - (intOf i).toNat)
  case atStart => exact ⟨0, by omega, rfl, World.ownsRow_nil _ _ _ _, Below.refl _ _⟩
  case round =>
    obtain ⟨j, hj, rfl, hown, hbe⟩ := hrel
    have hsz := hbe.size
    have HBE := Lib.hid hbe
    clear hbe
    by_cases hM : j < (n + 6) / 7
    · have t1 : ¬ ((n : Int) + 6) / 7 ≤ j := by omega
      by_cases hR : k + j < r.length
      · have t2 : ¬ (r.length : Int) ≤ (k : Int) + j := by omega
        obtain ⟨c, hcj⟩ : ∃ c, r[k + j]? = some c := ⟨_, List.getElem?_eq_getElem hR⟩
        obtain ⟨b, off, rfl, hbB, hcell⟩ := (HL.out.below HBE.out hB).byte hcj
        obtain ⟨c0, c1⟩ := HC.out c (List.mem_of_getElem? hcj)
        have HCJ := Lib.hid hcj
        clear hcj
        go_wp2_with (go_at_call 158; go_must (refine (refMost_in _ _ (by omega) (by omega)).mono ?_; rintro e w' ⟨rfl, rfl⟩))
        obtain ⟨wo, rfl⟩ : ∃ wo : World, wo = wr := ⟨_, rfl⟩
        have HOWN := Lib.hid hown
        clear hown hcell
        go_loopw [11, 14] (fun l i wr => ∃ m : Nat, m ≤ 7 ∧ i = .int .i64 m ∧ wr.ownsRow w.heap.size 4 1 l (7 * j + m) (bools N (7 * j + m)) ∧ Below w.heap.size w wr) (fun _ i _ => 7 - (intOf i).toNat)
        case atStart => exact ⟨0, by omega, rfl, HOWN.out, HBE.out⟩
        case round =>
          obtain ⟨m, hm7, rfl, hown2, hbe2⟩ := hrel
          have hsz2 := hbe2.size
          have HBE2 := Lib.hid hbe2
          clear hbe2
          by_cases hlt : m < 7
          · have hbt := HBI.out j m c hj hlt HCJ.out
            obtain ⟨y, hy⟩ : ∃ y, c / 2 ^ m = y := ⟨_, rfl⟩
            have hy0 : 0 ≤ y := by rw [← hy]; exact Int.ediv_nonneg c0 (Int.le_of_lt (p2 _))
            have hy1 : y ≤ 255 := by rw [← hy]; exact Int.le_trans (Int.ediv_le_self _ c0) c1
            have hbe : bit N (7 * j + m) = (y % 2 == 1) := by rw [hbt]; unfold bit; rw [hy]
            have HBT := Lib.hid hbe
            clear hbt hbe
            go_wp2_with (at_builtin; refine wpList_append_own _ rfl _ _ _ rfl w.heap.size 4 i0 _ 1 1 Tryd.underlying193 hi0 hz0 hz1 hz2 rfl (by omega) _ _ _ rfl (hown2.alloc _) ⟨wr.heap.size, 0, none⟩ 1 1 [.bool (y % 2 == 1)] rfl rfl (World.news_of_block (cs := #[.bool (y % 2 == 1)]) (t := 4) (fr := (0, 0)) (heap_alloc_new wr _)) (by simp [Value.oneCell']) (by unfold maxLen; omega) (by omega) (by simp; omega) ?_; intro v' w2 hown3 hgrow3 _; have HO3 := Lib.hid hown3; have HG3 := Lib.hid hgrow3; clear hown3 hgrow3)
            go_roundw
            case rel => exact ⟨m + 1, by omega, by go_num, by rw [← Nat.add_assoc, bools_snoc, HBT.out]; exact HO3.out, below_append HBE2.out hown2 HG3.out⟩
            case measure => simp [intOf]; omega
          · obtain rfl : m = 7 := by omega
            by_cases hjp : j < p
            · have c2 := HP.out.on j c hjp (by rw [List.getElem?_drop]; exact HCJ.out)
              go_wp2
              go_roundw
              case rel => exact ⟨j + 1, by omega, by go_num, by rw [show 7 * (j + 1) = 7 * j + 7 by omega]; exact hown2, HBE2.out⟩
              case measure => simp [intOf]; omega
            · obtain rfl : j = p := by omega
              have c2 := HP.out.off c hM (by rw [List.getElem?_drop]; exact HCJ.out)
              obtain ⟨mm, hmm⟩ : ∃ mm, mm = 7 * j + 7 := ⟨_, rfl⟩
              rw [← hmm] at hown2
              obtain ⟨A2, cap2, rfl, hle2, hmx2, hl2, _⟩ := lies_own hown2
              obtain ⟨b2, off2, rfl, hb2, _⟩ := hl2 _ _ (bools_get N (show 0 < mm by omega))
              have hcell2 : ∀ i, i < mm → wr.cell? ⟨b2, off2 + i, none⟩ = some (.bool (bit N i)) := fun i hi => by
                obtain ⟨b', off', e', _, h2⟩ := hl2 _ _ (bools_get N hi)
                simp only [Option.some.injEq, Addr.mk.injEq] at e'
                obtain ⟨rfl, rfl, _⟩ := e'
                exact h2
              have HC2 := Lib.hid hcell2
              have hres : (¬ Good s N mm n ∧ X = 0 ∧ Q = 0 ∧ E = 3) ∨ (Good s N mm n ∧ X = ext s N mm % 2 ^ 64 ∧ Q = k + (j + 1) ∧ E = 0) := by
                rcases HRES.out with h | h | h | h
                · omega
                · omega
                · exact .inl (by rw [HN.out, hmm, show 7 * j + 7 = 7 * (j + 1) by omega]; exact h.2.2)
                · exact .inr (by rw [HN.out, hmm, show 7 * j + 7 = 7 * (j + 1) by omega]; exact h.2.2)
              have hNb : 0 ≤ N ∧ N < 2 ^ mm := by
                have h := low_bd ((r.drop k).take (j + 1))
                rw [List.length_take, List.length_drop, show min (j + 1) (r.length - k) = j + 1 by omega, ← HN.out, show 7 * (j + 1) = mm by omega] at h
                exact h
              have hmm7 : 7 ≤ mm := by omega
              have hmm70 : mm ≤ 70 := by omega
              unfold maxLen at hmx2
              obtain ⟨q, hq⟩ : ∃ q, q = min n mm - 1 := ⟨_, rfl⟩
              have hq1 : (min (n : Int) (mm : Int) - 1).toNat = q := by omega
              have hq2 : min (n : Int) (mm : Int) - 1 = (q : Int) := by omega
              have hq3 : q < mm := by omega
              have hqc := hcell2 q hq3
              have HMM := Lib.hid hmm
              clear hcell2 hl2 hown2 hmm
              rcases hres with ⟨hbad, hF⟩ | ⟨hgood, hF⟩
              · have F := Lib.hid hF
                clear hF
                have hbad : ∃ j0, n ≤ j0 ∧ j0 < mm ∧ ¬ bit N j0 = topB s N mm n := by
                  refine Classical.byContradiction fun hno => hbad fun i h1 h2 => Classical.byContradiction fun h3 => hno ⟨i, h1, h2, h3⟩
                cases s
                · have ht : topB false N mm n = false := rfl
                  rw [ht] at hbad
                  clear ht
                  go_wp2
                  obtain ⟨j0, hj1, hj2, hj3⟩ := hbad
                  go_loop [16, 17] (fun v i => ∃ (i' : Nat) (v' : Int), i' ≤ j0 ∧ i = .int .i64 i' ∧ v = .int .u64 v') (fun _ i => j0 - (intOf i).toNat)
                  case atStart => exact ⟨0, 0, by omega, rfl, rfl⟩
                  case round =>
                    obtain ⟨i, v', hij, rfl, rfl⟩ := hrel
                    have h1 : (i : Int) < max 64 (mm : Int) := by omega
                    have h2 : (i : Int) < (mm : Int) := by omega
                    have hci := HC2.out i (by omega)
                    by_cases hin : i < n
                    · have h3 : ¬ (n : Int) ≤ i := by omega
                      have h3d : decide ((n : Int) ≤ i) = false := by simpa using h3
                      have h4 : (i : Int) < 64 := by omega
                      generalize bit N i = x at *
                      cases x
                      all_goals go_wp2
                      all_goals
                        go_round
                        case rel => exact ⟨i + 1, _, by omega, by go_num, rfl⟩
                        case measure => simp [intOf]; omega
                    · have h3 : (n : Int) ≤ i := by omega
                      by_cases hx : bit N i = false
                      · have hi0 : i ≠ j0 := fun e => hj3 (e ▸ hx)
                        rw [hx] at hci
                        have hne : (false != false) = false := by simp
                        skip
                        all_goals (by_cases h4 : (i : Int) < 64)
                        all_goals go_wp2
                        all_goals
                          go_round
                          case rel => exact ⟨i + 1, _, by omega, by go_num, rfl⟩
                          case measure => simp [intOf]; omega
                      · skip
                        all_goals (first
                          | (have hxx : bit N i = true := by simpa using hx
                             rw [hxx] at hci
                             clear hx hxx)
                          | (have hxx : bit N i = false := by simpa using hx
                             rw [hxx] at hci
                             clear hx hxx))
                        all_goals go_wp2
                        all_goals go_ret3
                        all_goals exact ⟨by rw [F.out.1, F.out.2.1, F.out.2.2]; rfl, HBE2.out⟩
                · have ht : topB true N mm n = bit N q := by unfold topB; rw [hq]; rfl
                  rw [ht] at hbad
                  clear ht hq
                  obtain ⟨t, ht⟩ : ∃ t, bit N q = t := ⟨_, rfl⟩
                  rw [ht] at hbad hqc
                  clear ht
                  go_wp2
                  obtain ⟨j0, hj1, hj2, hj3⟩ := hbad
                  go_loop [16, 17] (fun v i => ∃ (i' : Nat) (v' : Int), i' ≤ j0 ∧ i = .int .i64 i' ∧ v = .int .u64 v') (fun _ i => j0 - (intOf i).toNat)
                  case atStart => exact ⟨0, 0, by omega, rfl, rfl⟩
                  case round =>
                    obtain ⟨i, v', hij, rfl, rfl⟩ := hrel
                    have h1 : (i : Int) < max 64 (mm : Int) := by omega
                    have h2 : (i : Int) < (mm : Int) := by omega
                    have hci := HC2.out i (by omega)
                    by_cases hin : i < n
                    · have h3 : ¬ (n : Int) ≤ i := by omega
                      have h3d : decide ((n : Int) ≤ i) = false := by simpa using h3
                      have h4 : (i : Int) < 64 := by omega
                      generalize bit N i = x at *
                      cases x
                      all_goals go_wp2
                      all_goals
                        go_round
                        case rel => exact ⟨i + 1, _, by omega, by go_num, rfl⟩
                        case measure => simp [intOf]; omega
                    · have h3 : (n : Int) ≤ i := by omega
                      by_cases hx : bit N i = t
                      · have hi0 : i ≠ j0 := fun e => hj3 (e ▸ hx)
                        rw [hx] at hci
                        have hne : (t != t) = false := by simp
                        cases t
                        all_goals (by_cases h4 : (i : Int) < 64)
                        all_goals go_wp2
                        all_goals
                          go_round
                          case rel => exact ⟨i + 1, _, by omega, by go_num, rfl⟩
                          case measure => simp [intOf]; omega
                      · cases t
                        all_goals (first
                          | (have hxx : bit N i = true := by simpa using hx
                             rw [hxx] at hci
                             clear hx hxx)
                          | (have hxx : bit N i = false := by simpa using hx
                             rw [hxx] at hci
                             clear hx hxx))
                        all_goals go_wp2
                        all_goals go_ret3
                        all_goals exact ⟨by rw [F.out.1, F.out.2.1, F.out.2.2]; rfl, HBE2.out⟩
              · have F := Lib.hid hF
                obtain ⟨Y, hY⟩ : ∃ Y, Y = ext s N mm := ⟨_, rfl⟩
                rw [← hY] at F
                have HX1 : Hid (∀ i, i < mm → bit Y i = bit N i) := by rw [hY]; exact fun i hi => ext_low s N mm i hi
                have HX2 : Hid (∀ i, n ≤ i ∨ mm ≤ i → bit Y i = topB s N mm n) := by rw [hY]; exact fun i hi => good_ext (by omega) hNb.1 hNb.2 hgood i hi
                clear hF hY hgood
                cases s
                · have ht : topB false N mm n = false := rfl
                  rw [ht] at HX2
                  clear ht
                  go_wp2
                  go_loop [16, 17] (fun v i => ∃ i' : Nat, i' ≤ max 64 mm ∧ i = .int .i64 i' ∧ v = .int .u64 (Y % 2 ^ min i' 64)) (fun _ i => max 64 mm - (intOf i).toNat)
                  case atStart => exact ⟨0, by omega, rfl, by simp⟩
                  case round =>
                    obtain ⟨i, hij, rfl, rfl⟩ := hrel
                    by_cases hlt : i < max 64 mm
                    · have h1 : (i : Int) < max 64 (mm : Int) := by omega
                      have hbi := HX1.out i
                      have hbj := HX2.out i
                      by_cases h4 : i < 64
                      · have h4' : (i : Int) < 64 := by omega
                        have hmb := mod_bit Y i
                        have hmi : min i 64 = i := by omega
                        have hmi2 : min (i + 1) 64 = i + 1 := by omega
                        have hv0 := Int.emod_nonneg Y (Int.ne_of_gt (p2 i))
                        have hv1 := Int.emod_lt_of_pos Y (p2 i)
                        have hm63 := mono2 (a := i) (b := 63) (by omega)
                        have e63 : (2 : Int) ^ 63 = 9223372036854775808 := rfl
                        have hi1 := p2 i
                        rw [hmi]
                        obtain ⟨v, hv⟩ : ∃ v, v = Y % 2 ^ i := ⟨_, rfl⟩
                        obtain ⟨z, hz⟩ : ∃ z, z = (2 : Int) ^ i := ⟨_, rfl⟩
                        rw [← hv] at hv0 hv1 hmb ⊢
                        rw [← hz] at hv1 hm63 hi1 hmb
                        have hw : IntKind.u64.wrap z = z := wrapU (by omega) (by omega)
                        rw [hz] at hw
                        rw [← hz] at hw
                        have hz1 : z ≤ 9223372036854775808 := by omega
                        have hv2 : v ≤ 9223372036854775807 := by omega
                        have hz0 : 0 ≤ z := by omega
                        have HMB := Lib.hid hmb
                        have HM2 := Lib.hid hmi2
                        have hzz : (2 : Int) ^ i = z := hz.symm
                        clear hv hmi hmi2 hmb hm63 e63 hi1 hv1 hz
                        by_cases hin : i < n
                        · have h3 : ¬ (n : Int) ≤ i := by omega
                          have h3d : decide ((n : Int) ≤ i) = false := by simpa using h3
                          by_cases him : i < mm
                          · have h2 : (i : Int) < (mm : Int) := by omega
                            have hci := HC2.out i him
                            rw [← hbi him] at hci
                            clear hbi hbj
                            generalize bit Y i = x at *
                            cases x
                            all_goals go_wp2
                            all_goals
                              go_round
                              case rel => exact ⟨i + 1, by omega, by go_num, by rw [HM2.out, HMB.out]; simp; try (exact wrapU (by omega) (by omega))⟩
                              case measure => simp [intOf]; omega
                          · have h2 : ¬ (i : Int) < (mm : Int) := by omega
                            rw [hbj (.inr (by omega))] at HMB
                            clear hbi hbj
                            skip
                            all_goals go_wp2
                            all_goals
                              go_round
                              case rel => exact ⟨i + 1, by omega, by go_num, by rw [HM2.out, HMB.out]; simp; try (exact wrapU (by omega) (by omega))⟩
                              case measure => simp [intOf]; omega
                        · have h3 : (n : Int) ≤ i := by omega
                          rw [hbj (.inl (by omega))] at HMB
                          by_cases him : i < mm
                          · have h2 : (i : Int) < (mm : Int) := by omega
                            have hci := HC2.out i him
                            rw [← hbi him, hbj (.inl (by omega))] at hci
                            have hne : (false != false) = false := by simp
                            clear hbi hbj
                            skip
                            all_goals go_wp2
                            all_goals
                              go_round
                              case rel => exact ⟨i + 1, by omega, by go_num, by rw [HM2.out, HMB.out]; simp; try (exact wrapU (by omega) (by omega))⟩
                              case measure => simp [intOf]; omega
                          · have h2 : ¬ (i : Int) < (mm : Int) := by omega
                            have h2d : decide ((i : Int) < (mm : Int)) = false := by simpa using h2
                            clear hbi hbj
                            skip
                            all_goals go_wp2
                            all_goals
                              go_round
                              case rel => exact ⟨i + 1, by omega, by go_num, by rw [HM2.out, HMB.out]; simp; try (exact wrapU (by omega) (by omega))⟩
                              case measure => simp [intOf]; omega
                      · have h4' : ¬ (i : Int) < 64 := by omega
                        have h4d : decide ((i : Int) < 64) = false := by simpa using h4'
                        have h3 : (n : Int) ≤ i := by omega
                        have h2 : (i : Int) < (mm : Int) := by omega
                        have hci := HC2.out i (by omega)
                        have HMI : Hid (min (i + 1) 64 = min i 64) := by show min (i + 1) 64 = min i 64; omega
                        rw [← hbi (by omega), hbj (.inl (by omega))] at hci
                        have hne : (false != false) = false := by simp
                        clear hbi hbj
                        generalize hvv : Y % 2 ^ min i 64 = v at *
                        have HV := Lib.hid hvv
                        clear hvv
                        skip
                        all_goals go_wp2
                        all_goals
                          go_round
                          case rel => exact ⟨i + 1, by omega, by go_num, by rw [HMI.out, HV.out]⟩
                          case measure => simp [intOf]; omega
                    · have h1 : ¬ (i : Int) < max 64 (mm : Int) := by omega
                      have hmi : Y % 2 ^ min i 64 = X := by rw [F.out.1, show min i 64 = 64 by omega]
                      rw [hmi]
                      clear hmi
                      go_wp2
                      go_ret3
                      exact ⟨by rw [F.out.2.1, F.out.2.2]; rfl, HBE2.out⟩
                · have ht : topB true N mm n = bit N q := by unfold topB; rw [hq]; rfl
                  rw [ht] at HX2
                  clear ht hq
                  obtain ⟨t, ht⟩ : ∃ t, bit N q = t := ⟨_, rfl⟩
                  rw [ht] at HX2 hqc
                  clear ht
                  go_wp2
                  go_loop [16, 17] (fun v i => ∃ i' : Nat, i' ≤ max 64 mm ∧ i = .int .i64 i' ∧ v = .int .u64 (Y % 2 ^ min i' 64)) (fun _ i => max 64 mm - (intOf i).toNat)
                  case atStart => exact ⟨0, by omega, rfl, by simp⟩
                  case round =>
                    obtain ⟨i, hij, rfl, rfl⟩ := hrel
                    by_cases hlt : i < max 64 mm
                    · have h1 : (i : Int) < max 64 (mm : Int) := by omega
                      have hbi := HX1.out i
                      have hbj := HX2.out i
                      by_cases h4 : i < 64
                      · have h4' : (i : Int) < 64 := by omega
                        have hmb := mod_bit Y i
                        have hmi : min i 64 = i := by omega
                        have hmi2 : min (i + 1) 64 = i + 1 := by omega
                        have hv0 := Int.emod_nonneg Y (Int.ne_of_gt (p2 i))
                        have hv1 := Int.emod_lt_of_pos Y (p2 i)
                        have hm63 := mono2 (a := i) (b := 63) (by omega)
                        have e63 : (2 : Int) ^ 63 = 9223372036854775808 := rfl
                        have hi1 := p2 i
                        rw [hmi]
                        obtain ⟨v, hv⟩ : ∃ v, v = Y % 2 ^ i := ⟨_, rfl⟩
                        obtain ⟨z, hz⟩ : ∃ z, z = (2 : Int) ^ i := ⟨_, rfl⟩
                        rw [← hv] at hv0 hv1 hmb ⊢
                        rw [← hz] at hv1 hm63 hi1 hmb
                        have hw : IntKind.u64.wrap z = z := wrapU (by omega) (by omega)
                        rw [hz] at hw
                        rw [← hz] at hw
                        have hz1 : z ≤ 9223372036854775808 := by omega
                        have hv2 : v ≤ 9223372036854775807 := by omega
                        have hz0 : 0 ≤ z := by omega
                        have HMB := Lib.hid hmb
                        have HM2 := Lib.hid hmi2
                        have hzz : (2 : Int) ^ i = z := hz.symm
                        clear hv hmi hmi2 hmb hm63 e63 hi1 hv1 hz
                        by_cases hin : i < n
                        · have h3 : ¬ (n : Int) ≤ i := by omega
                          have h3d : decide ((n : Int) ≤ i) = false := by simpa using h3
                          by_cases him : i < mm
                          · have h2 : (i : Int) < (mm : Int) := by omega
                            have hci := HC2.out i him
                            rw [← hbi him] at hci
                            clear hbi hbj
                            generalize bit Y i = x at *
                            cases x
                            all_goals go_wp2
                            all_goals
                              go_round
                              case rel => exact ⟨i + 1, by omega, by go_num, by rw [HM2.out, HMB.out]; simp; try (exact wrapU (by omega) (by omega))⟩
                              case measure => simp [intOf]; omega
                          · have h2 : ¬ (i : Int) < (mm : Int) := by omega
                            rw [hbj (.inr (by omega))] at HMB
                            clear hbi hbj
                            cases t
                            all_goals go_wp2
                            all_goals
                              go_round
                              case rel => exact ⟨i + 1, by omega, by go_num, by rw [HM2.out, HMB.out]; simp; try (exact wrapU (by omega) (by omega))⟩
                              case measure => simp [intOf]; omega
                        · have h3 : (n : Int) ≤ i := by omega
                          rw [hbj (.inl (by omega))] at HMB
                          by_cases him : i < mm
                          · have h2 : (i : Int) < (mm : Int) := by omega
                            have hci := HC2.out i him
                            rw [← hbi him, hbj (.inl (by omega))] at hci
                            have hne : (t != t) = false := by simp
                            clear hbi hbj
                            cases t
                            all_goals go_wp2
                            all_goals
                              go_round
                              case rel => exact ⟨i + 1, by omega, by go_num, by rw [HM2.out, HMB.out]; simp; try (exact wrapU (by omega) (by omega))⟩
                              case measure => simp [intOf]; omega
                          · have h2 : ¬ (i : Int) < (mm : Int) := by omega
                            have h2d : decide ((i : Int) < (mm : Int)) = false := by simpa using h2
                            clear hbi hbj
                            cases t
                            all_goals go_wp2
                            all_goals
                              go_round
                              case rel => exact ⟨i + 1, by omega, by go_num, by rw [HM2.out, HMB.out]; simp; try (exact wrapU (by omega) (by omega))⟩
                              case measure => simp [intOf]; omega
                      · have h4' : ¬ (i : Int) < 64 := by omega
                        have h4d : decide ((i : Int) < 64) = false := by simpa using h4'
                        have h3 : (n : Int) ≤ i := by omega
                        have h2 : (i : Int) < (mm : Int) := by omega
                        have hci := HC2.out i (by omega)
                        have HMI : Hid (min (i + 1) 64 = min i 64) := by show min (i + 1) 64 = min i 64; omega
                        rw [← hbi (by omega), hbj (.inl (by omega))] at hci
                        have hne : (t != t) = false := by simp
                        clear hbi hbj
                        generalize hvv : Y % 2 ^ min i 64 = v at *
                        have HV := Lib.hid hvv
                        clear hvv
                        cases t
                        all_goals go_wp2
                        all_goals
                          go_round
                          case rel => exact ⟨i + 1, by omega, by go_num, by rw [HMI.out, HV.out]⟩
                          case measure => simp [intOf]; omega
                    · have h1 : ¬ (i : Int) < max 64 (mm : Int) := by omega
                      have hmi : Y % 2 ^ min i 64 = X := by rw [F.out.1, show min i 64 = 64 by omega]
                      rw [hmi]
                      clear hmi
                      go_wp2
                      go_ret3
                      exact ⟨by rw [F.out.2.1, F.out.2.2]; rfl, HBE2.out⟩
      · have t2 : (r.length : Int) ≤ (k : Int) + j := by omega
        have hjp : j = p := by omega
        have F : Hid (X = 0 ∧ Q = 0 ∧ E = 2) := by
          rcases HRES.out with h | h | h | h
          · omega
          · exact h.2.2
          · omega
          · omega
        go_wp2_with (go_at_call 158; go_must (refine (refMost_in _ _ (by omega) (by omega)).mono ?_; rintro e w' ⟨rfl, rfl⟩))
        go_ret3
        exact ⟨by rw [F.out.1, F.out.2.1, F.out.2.2]; rfl, HBE.out⟩
    · have t1 : ((n : Int) + 6) / 7 ≤ j := by omega
      have hjp : j = p := by omega
      have F : Hid (X = 0 ∧ Q = 0 ∧ E = 3) := by
        rcases HRES.out with h | h | h | h
        · exact h.2
        · omega
        · omega
        · omega
      go_wp2_with (go_at_call 158; go_must (refine (refMost_in _ _ (by omega) (by omega)).mono ?_; rintro e w' ⟨rfl, rfl⟩))
      go_ret3
      exact ⟨by rw [F.out.1, F.out.2.1, F.out.2.2]; rfl, HBE.out⟩
end Go.Proofs.YtebgmfjgapmpfaaDoor
