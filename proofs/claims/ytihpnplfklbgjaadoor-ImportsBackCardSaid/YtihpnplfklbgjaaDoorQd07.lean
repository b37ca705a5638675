/- sect.Next of any bytes. -/
import Derived.Test.YtihpnplfklbgjaaDoorQd06
import Derived.Deep.QuietTactic
import Derived.Deep.LoopGhost
import Derived.OwnWalk
import Derived.Test.YtihpnplfklbgjaaDoorQd02
import Derived.RegionTactic
import Derived.Lib.SlBytesConst
import Derived.Test.YtihpnplfklbgjaaDoorQd03
import Derived.WalkSpells
import Derived.Laws.MakeOwn
import Derived.Test.YtihpnplfklbgjaaDoorQd01
import Derived.BigQuiet
import Derived.StillTailTactics
import Derived.Deep.DeepMust
import Derived.Test.YtihpnplfklbgjaaDoorQd05
namespace Go.Proofs.YtihpnplfklbgjaaDoor
open Go.RowKit Go.Lib
set_option linter.unusedVariables false
set_option maxRecDepth 100000

theorem size_box (w : World) (o : Obj) : (w.alloc o).heap.size = w.heap.size + 1 := by simp
def secZ : Array Value := #[.int .u8 0, .string { data := #[] }, .slice none 0 0, .int .i64 0]
def secC (c : UInt8) (t : List UInt8) (v : Value) (a : Int) : Array Value := #[.int .u8 c.toNat, .string (S t), v, .int .i64 a]
section
variable {w W W' : World} {p q P X : Nat} {l part : List UInt8} {k j : Nat} {x : Array Value}
end
theorem left_nat {w : World} {p : Nat} {l : List UInt8} {k : Nat} (h : Sc w p l k) :
    Calls Tryd.prog 84 #[.pointer (some ⟨p, 0, none⟩)] w fun e w' => e = .returned (.int .i64 ((l.length - k : Nat) : Int)) ∧ ∃ m, w' = w.drewN m :=
  (left_any h).mono fun e w' h1 => ⟨by rw [h1.1]; congr 2; have := h.le; omega, h1.2⟩
theorem Row.past {w w' : World} {B b : Nat} {v : Value} {xs : List UInt8} (h : Row w B v xs) (hg : w.grownBy w' (some b)) (hb : b < B) : Row w' B v xs :=
  World.ownsRow.kept h hg (by
    cases hv : v.ownBlock with
    | none => exact .inl rfl
    | some k => exact .inr (by have := (World.ownsRow.lt h k hv).1; simp only [ne_eq, Option.some.injEq]; omega))
theorem Row.slice {w : World} {B : Nat} {v : Value} {xs : List UInt8} (h : Row w B v xs) : ∃ A c, v = .slice A xs.length c := by
  obtain ⟨A, c, e, _⟩ := lies_own h
  exact ⟨A, c, e⟩
theorem step_put {w : World} {ops : Array Oper} {o : Oper} {a : Act} {K : Act → World → Prop} {Q : Exit → Act → World → Prop} {E : Prop} (hgd : o.guard = none) (pa pv : Operand) (ho : o.op = .store 29 pa pv) (bb i : Nat) (A : Option Addr) (n c : Nat) (hx : a.eval pa = .pointer (some ⟨bb, i, none⟩)) (hv : a.eval pv = .slice A n c) {y : Value}
    (c0 : w.cell? ⟨bb, i, none⟩ = some y) (f0 : w.frozen? ⟨bb, i, none⟩ = false) (h : K (a.put o.dst undef) (w.setCell ⟨bb, i, none⟩ (.slice A n c))) :
    if Region.wanted o (yielded ops a.tmps) = true then Oper.wp Tryd.prog o a w K Q else E := by
  refine step_skip hgd ?_ h
  cases o
  subst ho
  clear h
  generalize a.eval = ev at hx hv ⊢
  simp [go_sem, hx, hv, c0, f0]
/-- What Next reads. -/
noncomputable def nextR (l : List UInt8) (k : Nat) : Res Sct := (numR l k).bind fun c k1 => (contR l k1).bind fun n k2 =>
  if c.toNat = 0 then (match nmR ((l.drop k2).take n) 0 with
    | .ok t j => .ok ⟨c, t, ((l.drop k2).take n).drop j, (k2 : Int) + j⟩ (k2 + n)
    | .err e a => .err e (a + k2))
  else .ok ⟨c, [], (l.drop k2).take n, k2⟩ (k2 + n)
theorem nextR_err {l : List UInt8} {k : Nat} {c a : Int} (h : nextR l k = .err c a) : c ≠ 0 := by
  unfold nextR at h
  cases h1 : numR l k with
  | err c2 a2 =>
    rw [h1, Res.bind_err] at h
    injection h with e1 e2
    exact e1 ▸ numR_err h1
  | ok c2 k1 =>
    rw [h1, Res.bind_ok] at h
    cases h2 : contR l k1 with
    | err c3 a3 =>
      rw [h2, Res.bind_err] at h
      injection h with e1 e2
      exact e1 ▸ contR_err h2
    | ok n k2 =>
      rw [h2, Res.bind_ok] at h
      by_cases h0 : c2.toNat = 0
      · rw [if_pos h0] at h
        cases h3 : nmR ((l.drop k2).take n) 0 with
        | ok t j => rw [h3] at h; cases h
        | err e a =>
          rw [h3] at h
          injection h with e1 e2
          exact e1 ▸ (nameR_err h3).1
      · rw [if_neg h0] at h; cases h
/-- What Next hands back. -/
def Nexted (p : Nat) (l : List UInt8) (w : World) (r : Res Sct) (e : Ending) (w' : World) : Prop := match r with
  | .ok x k => ∃ v, e = .returned (.agg (secC x.id x.name v x.off)) ∧ Row w' w.heap.size v x.body ∧ Sc w' p l k ∧ w.grownBy w' (some p)
  | .err c a => e = .panicked (stopP c a) ∧ w.grownBy w' (some p)
theorem nexted_end {p k2 j k' : Nat} {l : List UInt8} {w W4 : World} {c : UInt8} {t y : List UInt8} {A : Option Addr} {cc : Nat} {x : Sct} (hx : x = ⟨c, t, y, (k2 : Int) + j⟩) (hr : Row W4 w.heap.size (.slice A y.length cc) y) (hs : Sc W4 p l k') (hg : w.grownBy W4 (some p)) :
    Nexted p l w (.ok x k') (.returned (.agg #[.int .u8 c.toNat, .string (S t), .slice A y.length cc, .int .i64 ((k2 : Int) + j)])) W4 := by
  subst hx
  exact ⟨_, rfl, hr, hs, hg⟩
theorem nextR_ok {l : List UInt8} {k k' : Nat} {x : Sct} (h : nextR l k = .ok x k') : k < k' ∧ k' ≤ l.length := by
  unfold nextR at h
  cases h1 : numR l k with
  | err c2 a2 => rw [h1, Res.bind_err] at h; cases h
  | ok c2 k1 =>
    rw [h1, Res.bind_ok] at h
    have e1 := numR_ok h1
    cases h2 : contR l k1 with
    | err c3 a3 => rw [h2, Res.bind_err] at h; cases h
    | ok n k2 =>
      rw [h2, Res.bind_ok] at h
      have e2 := contR_ok h2
      by_cases h0 : c2.toNat = 0
      · rw [if_pos h0] at h
        cases h3 : nmR ((l.drop k2).take n) 0 with
        | ok t j => rw [h3] at h; injection h with q1 q2; omega
        | err e a => rw [h3] at h; cases h
      · rw [if_neg h0] at h; injection h with q1 q2; omega
end Go.Proofs.YtihpnplfklbgjaaDoor

/- Sections in a row of the call's own; sect.rest of any bytes. -/
namespace Go.Proofs.YtihpnplfklbgjaaDoor
open Go.RowKit Go.Lib
set_option linter.unusedVariables false
set_option maxRecDepth 100000

abbrev SSlot := Sct × Option Addr × Nat
def rowS (x : SSlot) : List Value := [.int .u8 x.1.id.toNat, .string (S x.1.name), .slice x.2.1 x.1.body.length x.2.2, .int .i64 x.1.off]
/-- Each section's bytes lie in a row of their own. -/
def AllB (W : World) (base : Nat) (rows : List SSlot) : Prop := ∀ x ∈ rows, Row W base (.slice x.2.1 x.1.body.length x.2.2) x.1.body
theorem own_whole {W : World} {b : Nat} {e : TypeId} {s n q : Nat} {v : Value} {xs : List Value} {t : TypeId} {cs : Array Value} (h : W.ownsRow b e s v n xs) (hw : Whole W q t cs) (ht : t ≠ e) : some q ≠ v.ownBlock := by
  rcases h.2 with ⟨rfl, _⟩ | ⟨g, cap, cur, rfl, _, hg, _⟩
  · simp [Value.ownBlock]
  · simp only [Value.ownBlock, ne_eq, Option.some.injEq]
    exact hw.apart (show Whole W g e cur from hg) ht
theorem own_own {W : World} {b b' : Nat} {e e' : TypeId} {s s' n n' : Nat} {v v' : Value} {xs xs' : List Value} (h : W.ownsRow b e s v n xs) (h' : W.ownsRow b' e' s' v' n' xs') (ht : e ≠ e') : v.ownBlock = none ∨ v.ownBlock ≠ v'.ownBlock := by
  rcases h.2 with ⟨rfl, _⟩ | ⟨g, cap, cur, rfl, _, hg, _⟩
  · exact .inl rfl
  · exact .inr (own_whole h' (show Whole W g e cur from hg) ht)
theorem AllB.past {W W' : World} {base b : Nat} {rows : List SSlot} (h : AllB W base rows) (hg : W.grownBy W' (some b)) (hb : b < base) : AllB W' base rows := fun x hx => (h x hx).past hg hb
theorem AllB.alloc {W : World} {base : Nat} {rows : List SSlot} (h : AllB W base rows) (o : Obj) : AllB (W.alloc o) base rows := fun x hx => (h x hx).alloc o
/-- All the sections that are left. -/
noncomputable def restR (l : List UInt8) : Nat → Nat → Nat → List Sct → Res (List Sct)
  | 0, k, _, _ => .err 1 k
  | f + 1, k, last, acc => if k = l.length then .ok acc k else (nextR l k).bind fun x k' =>
      if x.id.toNat ≠ 0 ∧ ¬ last < x.id.toNat then .err 6 k else
      if acc.length < 10000 then restR l f k' (if x.id.toNat ≠ 0 then x.id.toNat else last) (acc ++ [x]) else .err 29 k
theorem restR_err {l : List UInt8} : ∀ {f k last : Nat} {acc : List Sct} {c a : Int}, restR l f k last acc = .err c a → c ≠ 0
  | 0, k, last, acc, c, a, h => by unfold restR at h; injection h with e1 e2; omega
  | f + 1, k, last, acc, c, a, h => by
    unfold restR at h
    by_cases h0 : k = l.length
    · rw [if_pos h0] at h; cases h
    · rw [if_neg h0] at h
      cases hn : nextR l k with
      | err c2 a2 =>
        rw [hn, Res.bind_err] at h
        injection h with e1 e2
        exact e1 ▸ nextR_err hn
      | ok x k' =>
        rw [hn, Res.bind_ok] at h
        split at h
        · injection h with e1 e2; omega
        · split at h
          · exact restR_err h
          · injection h with e1 e2; omega
end Go.Proofs.YtihpnplfklbgjaaDoor

/- The walk of sect.rest. -/
namespace Go.Proofs.YtihpnplfklbgjaaDoor
open Go.RowKit Go.Lib
set_option linter.unusedVariables false
set_option maxRecDepth 100000

theorem nextR_le {l : List UInt8} {k k' : Nat} {x : Sct} (h : nextR l k = .ok x k') : l.length - k' < l.length - k := by have := nextR_ok h; omega
/-- One step of the list that is being read. -/
theorem restR_end {l : List UInt8} {f last : Nat} {acc : List Sct} : restR l (f + 1) l.length last acc = .ok acc l.length := by unfold restR; rw [if_pos rfl]
theorem restR_bad {l : List UInt8} {f k last : Nat} {acc : List Sct} {c a : Int} (h0 : k ≠ l.length) (h : nextR l k = .err c a) : restR l (f + 1) k last acc = .err c a := by
  unfold restR; rw [if_neg h0, h, Res.bind_err]
theorem restR_low {l : List UInt8} {f k last k' : Nat} {acc : List Sct} {x : Sct} (h0 : k ≠ l.length) (h : nextR l k = .ok x k') (h1 : x.id.toNat ≠ 0) (h2 : ¬ last < x.id.toNat) : restR l (f + 1) k last acc = .err 6 k := by
  unfold restR; rw [if_neg h0, h, Res.bind_ok, if_pos ⟨h1, h2⟩]
theorem restR_many {l : List UInt8} {f k last k' : Nat} {acc : List Sct} {x : Sct} (h0 : k ≠ l.length) (h : nextR l k = .ok x k') (h1 : ¬ (x.id.toNat ≠ 0 ∧ ¬ last < x.id.toNat)) (h2 : ¬ acc.length < 10000) : restR l (f + 1) k last acc = .err 29 k := by
  unfold restR; rw [if_neg h0, h, Res.bind_ok, if_neg h1, if_neg h2]
theorem restR_next {l : List UInt8} {f k last k' : Nat} {acc : List Sct} {x : Sct} (h0 : k ≠ l.length) (h : nextR l k = .ok x k') (h1 : ¬ (x.id.toNat ≠ 0 ∧ ¬ last < x.id.toNat)) (h2 : acc.length < 10000) : restR l (f + 1) k last acc = restR l f k' (if x.id.toNat ≠ 0 then x.id.toNat else last) (acc ++ [x]) := by
  conv => lhs; unfold restR
  rw [if_neg h0, h, Res.bind_ok, if_neg h1, if_pos h2]
theorem made_2 (w : World) (o : Obj) (t : TypeId) (cs : Array Value) : Whole ((w.alloc o).alloc (.cells cs t)) (w.heap.size + 1) t cs := by
  have h := Whole.made (w.alloc o) t cs
  rwa [size_box] at h
end Go.Proofs.YtihpnplfklbgjaaDoor

/- abort.Value of a function that ends well, whatever it hands back: []sect.Section. Value of one that aborts. -/
namespace Go.Proofs.YtihpnplfklbgjaaDoor
open Go.RowKit
set_option linter.unusedVariables false
set_option maxRecDepth 100000

section
variable {T : (Option Addr × Nat × Nat) → World → Prop}
end
end Go.Proofs.YtihpnplfklbgjaaDoor

/- sect.Split of bytes that begin with Head; awake. -/
namespace Go.Proofs.YtihpnplfklbgjaaDoor
open Go.RowKit Go.Lib
set_option linter.unusedVariables false
set_option maxRecDepth 100000

/-- What a module begins with. -/
def headL : List UInt8 := [0, 97, 115, 109, 1, 0, 0, 0]
theorem TbN.of {w w' : World} {q : Nat} (h : TabsU w) (hb : Below w.heap.size w w') (hq : w.heap.size ≤ q) (hz : q ≤ w'.heap.size) : TbN q w' := by
  have h1 := block_lt_of_cell (h.1 0 (by omega))
  have h2 := block_lt_of_cell (h.2 0 (by omega)).1
  exact ⟨h.below hb, Nat.lt_of_lt_of_le h1 hq, Nat.lt_of_lt_of_le h2 hq, hz⟩
/-- What Split reads of bytes that begin with Head. -/
noncomputable def splitR (l : List UInt8) : Res (List Sct) := restR l (l.length + 1) 8 0 []
theorem below_new {w w1 w2 : World} {q : Nat} (h : Below w.heap.size w w1) (hg : w1.grownBy w2 (some q)) (hq : w.heap.size ≤ q) : Below w.heap.size w w2 :=
  Below.grown h hg h.size (fun g e => by injection e with e; omega)
theorem splitR_head : splitR headL = .ok [] 8 := by
  unfold splitR
  exact restR_end
/-- A block of bytes that reads as it was made, marked or not. -/
theorem lies_made (w : World) (xs : List UInt8) (fz : Nat × Nat) : Lies (w.alloc (.cells (cells (nums xs)).toArray 5 fz)) (w.heap.size + 1) (some ⟨w.heap.size, 0, none⟩) (cells (nums xs)) := fun i v hv => by
  refine ⟨w.heap.size, 0, rfl, by omega, ?_⟩
  rw [Nat.zero_add, cell_of_row _ w.heap.size i _ _ fz (heap_alloc_new w _)]
  simpa using hv
theorem head_cells : (cells (nums headL)).toArray = #[.int .u8 0, .int .u8 97, .int .u8 115, .int .u8 109, .int .u8 1, .int .u8 0, .int .u8 0, .int .u8 0] := by rfl
end Go.Proofs.YtihpnplfklbgjaaDoor

/- slices.Concat of three pieces; sect.size; single steps that make rows of slices. -/
namespace Go.Proofs.YtihpnplfklbgjaaDoor
open Go.RowKit
set_option linter.unusedVariables false
set_option maxRecDepth 100000

/-- Bytes that lie somewhere in this world; whose slice is nil only without room. -/
structure Pc (A : Option Addr) (c : Nat) (l : List UInt8) (w : World) : Prop where
  lies : Lies w w.heap.size A (cells (nums l))
  nil : A = none → c = 0
theorem Pc.below {A : Option Addr} {c : Nat} {l : List UInt8} {w w' : World} (h : Pc A c l w) (hb : Below w.heap.size w w') : Pc A c l w' := ⟨(h.lies.below hb (Nat.le_refl _)).more hb.size, h.nil⟩
theorem Pc.from {A : Option Addr} {c : Nat} {l : List UInt8} {w w' : World} {B : Nat} (h : Lies w B A (cells (nums l))) (hn : A = none → c = 0) (hB : B ≤ w.heap.size) (hb : Below w.heap.size w w') : Pc A c l w' := ⟨(h.below hb hB).more (Nat.le_trans hB hb.size), hn⟩
theorem Row.pc {w : World} {B : Nat} {v : Value} {xs : List UInt8} (h : Row w B v xs) : ∃ A c, v = .slice A xs.length c ∧ Pc A c xs w := by
  have h' := h
  obtain ⟨h1, h2⟩ := h
  obtain ⟨A, c, e, h3, h4, h5, _⟩ := lies_own h'
  refine ⟨A, c, e, h5, fun hA => ?_⟩
  rcases h2 with ⟨e2, _⟩ | ⟨g, cap, cur, e2, _⟩
  · rw [e] at e2
    injection e2
  · rw [e, hA] at e2
    injection e2 with e3
    cases e3
theorem Pc.room {A : Option Addr} {c : Nat} {l : List UInt8} {w : World} (h : Pc A c l w) : A = none → c = 0 := h.nil
set_option maxHeartbeats 1600000 in
/-- Concat of three pieces, of which one at least is not empty. -/
theorem concat3 {w : World} {g : Nat} {A1 A2 A3 : Option Addr} {c1 c2 c3 : Nat} {l1 l2 l3 : List UInt8} (hg : Whole w g 29 #[.slice A1 l1.length c1, .slice A2 l2.length c2, .slice A3 l3.length c3])
    (h1 : Pc A1 c1 l1 w) (h2 : Pc A2 c2 l2 w) (h3 : Pc A3 c3 l3 w) (n1 : 0 < l1.length + l2.length + l3.length) (n2 : l1.length + l2.length + l3.length ≤ 1000000) :
    Calls Tryd.prog 38 #[.slice (some ⟨g, 0, none⟩) 3 3] w (BytesL (l1 ++ l2 ++ l3) w) := by
  have g0 : w.cell? ⟨g, 0, none⟩ = some (.slice A1 l1.length c1) := hg.cell 0
  have g1 : w.cell? ⟨g, 1, none⟩ = some (.slice A2 l2.length c2) := hg.cell 1
  have g2 : w.cell? ⟨g, 2, none⟩ = some (.slice A3 l3.length c3) := hg.cell 2
  obtain ⟨m1, hm1⟩ : ∃ m, m = l1.length := ⟨_, rfl⟩
  obtain ⟨m2, hm2⟩ : ∃ m, m = l2.length := ⟨_, rfl⟩
  obtain ⟨m3, hm3⟩ : ∃ m, m = l3.length := ⟨_, rfl⟩
  rw [← hm1, ← hm2, ← hm3] at n1 n2
  rw [← hm1] at g0
  rw [← hm2] at g1
  rw [← hm3] at g2
  have HG := Lib.hid hg
  have H1 := Lib.hid h1
  have H2 := Lib.hid h2
  have H3 := Lib.hid h3
  have HM1 := Lib.hid hm1
  have HM2 := Lib.hid hm2
  have HM3 := Lib.hid hm3
  clear hg h1 h2 h3 hm1 hm2 hm3
  have HGr := Lib.hid (grow_any (m1 + m2 + m3) w (by omega) n2)
  go_enter Tryd.func38, Tryd.ntmps38
  go_wp2
  go_loop [3, 11] (fun s i => (s = .int .i64 0 ∧ i = .int .i64 0) ∨ (s = .int .i64 m1 ∧ i = .int .i64 1) ∨ (s = .int .i64 ((m1 + m2 : Nat) : Int) ∧ i = .int .i64 2) ∨ (s = .int .i64 ((m1 + m2 + m3 : Nat) : Int) ∧ i = .int .i64 3)) (fun _ i => 3 - (intOf i).toNat)
  case atStart => exact .inl ⟨rfl, rfl⟩
  case round =>
    rcases hrel with ⟨rfl, rfl⟩ | ⟨rfl, rfl⟩ | ⟨rfl, rfl⟩ | ⟨rfl, rfl⟩
    · go_wp2
      go_round
      case rel => exact .inr (.inl ⟨by go_num, rfl⟩)
      case measure => simp [intOf]
    · go_wp2
      go_round
      case rel => exact .inr (.inr (.inl ⟨by go_num, rfl⟩))
      case measure => simp [intOf]
    · go_wp2
      go_round
      case rel => exact .inr (.inr (.inr ⟨by go_num, rfl⟩))
      case measure => simp [intOf]
    · go_wp2_with (go_at_call 74; go_must (refine HGr.out.mono ?_; intro e w1 h; obtain ⟨v1, rfl, hr1, hb1⟩ := h; have HR1 := Lib.hid hr1; have HB1 := Lib.hid hb1; clear hr1 hb1))
      go_loopw [6, 27] (fun v i wr => Below w.heap.size w wr ∧ ((Row wr w.heap.size v [] ∧ i = .int .i64 0) ∨ (Row wr w.heap.size v l1 ∧ i = .int .i64 1) ∨ (Row wr w.heap.size v (l1 ++ l2) ∧ i = .int .i64 2) ∨ (Row wr w.heap.size v (l1 ++ l2 ++ l3) ∧ i = .int .i64 3))) (fun _ i _ => 3 - (intOf i).toNat)
      case atStart => exact ⟨HB1.out, .inl ⟨HR1.out, rfl⟩⟩
      case round =>
        obtain ⟨hb, ⟨hr, rfl⟩ | ⟨hr, rfl⟩ | ⟨hr, rfl⟩ | ⟨hr, rfl⟩⟩ := hrel
        · have c0 : wr.cell? ⟨g, 0, none⟩ = some (.slice A1 m1 c1) := by have := (HG.out.below hb).cell 0; rw [HM1.out]; exact this
          have HR := Lib.hid hr
          have HB := Lib.hid hb
          have hz := hb.size
          clear hr hb
          go_wp2_with (at_builtin; (refine row_any rfl _ _ rfl w.heap.size _ [] rfl HR.out A1 m1 c1 wr.heap.size l1 rfl HM1.out.symm (H1.out.below HB.out).lies H1.out.nil (by have := HM1.out; have := HM2.out; have := HM3.out; (try simp only [List.length_nil]); omega) hz ?_; intro v2 w2 hr2 hb2; have HR2 := Lib.hid hr2; have HB2 := Lib.hid hb2; clear hr2 hb2))
          go_roundw
          case rel => exact ⟨HB.out.trans HB2.out, .inr (.inl ⟨by simpa using HR2.out, rfl⟩)⟩
          case measure => simp [intOf]
        · have c0 : wr.cell? ⟨g, 1, none⟩ = some (.slice A2 m2 c2) := by have := (HG.out.below hb).cell 1; rw [HM2.out]; exact this
          have HR := Lib.hid hr
          have HB := Lib.hid hb
          have hz := hb.size
          clear hr hb
          go_wp2_with (at_builtin; (refine row_any rfl _ _ rfl w.heap.size _ l1 rfl HR.out A2 m2 c2 wr.heap.size l2 rfl HM2.out.symm (H2.out.below HB.out).lies H2.out.nil (by have := HM1.out; have := HM2.out; have := HM3.out; (try simp only [List.length_append, List.length_nil]); omega) hz ?_; intro v2 w2 hr2 hb2; have HR2 := Lib.hid hr2; have HB2 := Lib.hid hb2; clear hr2 hb2))
          go_roundw
          case rel => exact ⟨HB.out.trans HB2.out, .inr (.inr (.inl ⟨HR2.out, rfl⟩))⟩
          case measure => simp [intOf]
        · have c0 : wr.cell? ⟨g, 2, none⟩ = some (.slice A3 m3 c3) := by have := (HG.out.below hb).cell 2; rw [HM3.out]; exact this
          have HR := Lib.hid hr
          have HB := Lib.hid hb
          have hz := hb.size
          clear hr hb
          go_wp2_with (at_builtin; (refine row_any rfl _ _ rfl w.heap.size _ (l1 ++ l2) rfl HR.out A3 m3 c3 wr.heap.size l3 rfl HM3.out.symm (H3.out.below HB.out).lies H3.out.nil (by have := HM1.out; have := HM2.out; have := HM3.out; (try simp only [List.length_append]); omega) hz ?_; intro v2 w2 hr2 hb2; have HR2 := Lib.hid hr2; have HB2 := Lib.hid hb2; clear hr2 hb2))
          go_roundw
          case rel => exact ⟨HB.out.trans HB2.out, .inr (.inr (.inr ⟨HR2.out, rfl⟩))⟩
          case measure => simp [intOf]
        · have HR := Lib.hid hr
          have HB := Lib.hid hb
          clear hr hb
          go_wp2
          go_ret
          exact ⟨_, rfl, HR.out, HB.out⟩
end Go.Proofs.YtihpnplfklbgjaaDoor

/- types.Cut, Zero; creelref04.Cut; types.EncodeGlobal, creelref04.EncodeGlobal. -/
namespace Go.Proofs.YtihpnplfklbgjaaDoor
set_option linter.unusedVariables false
set_option maxRecDepth 100000
open Go.RowKit

/-- A value, by its type and number. -/
abbrev vv (t n : Int) : Value := .agg #[.int .u8 t, .int .u64 n]
def cutZ (t n : Int) : Int := if t = 127 then n % 4294967296 else n
def rightB (t n : Int) : Bool := decide (valueZ t = 0) && decide (cutZ t n = n)
theorem and_low (n : Int) (h0 : 0 ≤ n) (h1 : n ≤ 18446744073709551615) : bits .and .u64 n 4294967295 = n % 4294967296 := by
  have e1 : (BitVec.ofInt 64 n).toNat = n.toNat := by
    rw [BitVec.toNat_ofInt]
    show (n % 18446744073709551616).toNat = _
    rw [Int.emod_eq_of_lt h0 (by omega)]
  have e2 : (BitVec.ofInt 64 4294967295).toNat = 2 ^ 32 - 1 := by decide
  show IntKind.u64.wrap ((BitVec.ofInt 64 n &&& BitVec.ofInt 64 4294967295).toNat : Nat) = _
  rw [BitVec.toNat_and, e1, e2, Nat.and_two_pow_sub_one_eq_mod]
  simp only [IntKind.wrap, IntKind.bits, IntKind.signed]
  simp
  omega

theorem below_two (w : World) (o o' : Obj) : Below w.heap.size w ((w.alloc o).alloc o') := (below_box w o).alloc (by simp) _
/-- A global's type, by value. -/
abbrev gv (t : Int) (m : Bool) : Value := .agg #[.int .u8 t, .bool m]
theorem two_of {w W W' : World} {u v : Value} {t : TypeId} (h : Boxed w (.cells #[u, v] t) W ∧ W.cell? ⟨w.heap.size, 0, none⟩ = some u ∧ W.cell? ⟨w.heap.size, 1, none⟩ = some v) (hb : Below W.heap.size W W') :
    Boxed w (.cells #[u, v] t) W' ∧ W'.cell? ⟨w.heap.size, 0, none⟩ = some u ∧ W'.cell? ⟨w.heap.size, 1, none⟩ = some v := ⟨h.1.on hb, (h.1.on hb).row 0, (h.1.on hb).row 1⟩
theorem encG_new (w : World) (t : Int) (m : Bool) (h0 : 0 ≤ t) (h1 : t ≤ 255) (B H : Nat) (hH : w.heap.size = H) (hb : B ≤ H) :
    Row (w.alloc (.cells #[.int .u8 t, .int .u8 (if m then 1 else 0)] 5)) B (.slice (some ⟨H, 0, none⟩) 2 2) (encG t m) := by
  have h := Row.made w (encG t m) B H hH hb (by simp [encG])
  rw [nums_encG t m h0 h1] at h
  exact h
set_option maxHeartbeats 1000000 in
theorem encG_any (t : Int) (m : Bool) (w : World) (h0 : 0 ≤ t) (h1 : t ≤ 255) : Calls Tryd.prog 119 #[gv t m] w (BytesL (encG t m) w) := by
  have FL := Lib.hid (fun w => flag_any m w)
  obtain ⟨f, hf⟩ : ∃ f : Int, f = if m then 1 else 0 := ⟨_, rfl⟩
  have RA := Lib.hid (fun w' B H hH hb => encG_new w' t m h0 h1 B H hH hb)
  rw [← hf] at RA FL
  clear hf
  go_enter Tryd.func119, Tryd.ntmps119
  go_wp2
  go_region_held3 (fun W => Boxed w (.cells #[.int .u8 t, .bool m] 50) W ∧ W.cell? ⟨w.heap.size, 0, none⟩ = some (.int .u8 t) ∧ W.cell? ⟨w.heap.size, 1, none⟩ = some (.bool m))
    (first | assumption | (exact ⟨Boxed.start _ _, (Boxed.start _ _).row 0, (Boxed.start _ _).row 1⟩) | (exact two_of (by assumption) (below_box _ _)))
    (first | (go_at_call 130; ((with_reducible refine (FL.out _).mono ?_); rintro e w' ⟨rfl, rfl⟩)))
  go_wp2
  go_ret
  exact ⟨_, rfl, Row.drew (RA.out (w.alloc _) w.heap.size (w.heap.size + 1) (by simp) (by omega)), (below_two _ _ _).drew⟩
theorem encG_str (w : World) (t : Int) (m : Bool) (h0 : 0 ≤ t) (h1 : t ≤ 255) (H : Nat) (hH : w.heap.size = H) :
    ∀ dst, Tryd.prog.underlying dst = some .string → (convert 29 dst (.slice (some ⟨H, 0, none⟩) 2 2)).run Tryd.prog (w.alloc (.cells #[.int .u8 t, .int .u8 (if m then 1 else 0)] 5)) = .ok (.string (S (encG t m))) (w.alloc (.cells #[.int .u8 t, .int .u8 (if m then 1 else 0)] 5)) := by
  obtain ⟨A, c, e, hs⟩ := (encG_new w t m h0 h1 H H hH (Nat.le_refl _)).str
  injection e with e1 e2 e3
  subst e1; subst e3
  exact hs
theorem refEncG_any (t : Int) (m : Bool) (w : World) (h0 : 0 ≤ t) (h1 : t ≤ 255) : Calls Tryd.prog 62 #[gv t m] w fun e w' => e = .returned (.string (S (encG t m))) ∧ Below w.heap.size w w' := by
  cases m
  · have hs := encG_str (w.alloc (.cells #[.int .u8 t, .bool false] 50)) t false h0 h1 (w.heap.size + 1) (by simp)
    simp only [Bool.false_eq_true, if_false] at hs
    go_enter Tryd.func62, Tryd.ntmps62
    go_wp2
    go_ret
    exact ⟨rfl, below_two _ _ _⟩
  · have hs := encG_str (w.alloc (.cells #[.int .u8 t, .bool true] 50)) t true h0 h1 (w.heap.size + 1) (by simp)
    simp only [if_true] at hs
    go_enter Tryd.func62, Tryd.ntmps62
    go_wp2
    go_ret
    exact ⟨rfl, below_two _ _ _⟩
end Go.Proofs.YtihpnplfklbgjaaDoor

/- leb.Int and creelref02.Int (from the leb layer): the least number of groups of seven bits. -/
namespace Go.Proofs.YtihpnplfklbgjaaDoor
set_option linter.unusedVariables false
open Go.RowKit
set_option maxRecDepth 100000

theorem no_moreS {x : Int} {k : Nat} (h : ∀ m, 1 ≤ m → m ≤ k → ¬ fitS x m) (hq : x / 128 ^ k < -64 ∨ 64 ≤ x / 128 ^ k) : ∀ m, 1 ≤ m → m ≤ k + 1 → ¬ fitS x m := by
  intro m h1 h2 h3
  rcases Nat.lt_or_ge m (k + 1) with g | g
  · exact h m h1 (by omega) h3
  · obtain rfl : m = k + 1 := by omega
    obtain ⟨a, b⟩ : -64 ≤ x / 128 ^ k ∧ x / 128 ^ k < 64 := h3
    omega
theorem bytes_endS {x q : Int} {n k : Nat} {w w2 : World} {v : Value} (hq : q = x / 128 ^ k) (hn : Least (fitS x) n) (hno : ∀ m, 1 ≤ m → m ≤ k → ¬ fitS x m) (hf : -64 ≤ q) (hf2 : q < 64)
    (ho : w2.ownsRow w.heap.size 5 1 v (k + 1) (cells (grps x k) ++ [.int .u8 (q % 128)])) (hb : Below w.heap.size w w2) : Bytes (grp x n) w (.returned v) w2 := by
  have hk : Least (fitS x) (k + 1) := ⟨by omega, by show -64 ≤ x / 128 ^ k ∧ x / 128 ^ k < 64; omega, fun m h1 h2 => hno m h1 (by omega)⟩
  obtain rfl := hk.unique hn
  have e : cells (grp x (k + 1)) = cells (grps x k) ++ [.int .u8 (q % 128)] := by rw [grp_snoc, cells_snoc, ← hq]
  exact bytes_own (by rw [e]; exact ho) (grp_length _ _) hb
theorem div_small {x q : Int} {k : Nat} (h0 : -9223372036854775808 ≤ x) (h1 : x ≤ 9223372036854775807) (hq : q = x / 128 ^ k) : -9223372036854775808 ≤ q ∧ q ≤ 9223372036854775807 := by
  have hp := p128 k
  subst hq
  refine ⟨(Int.le_ediv_iff_mul_le hp).2 ?_, ?_⟩
  · have := Int.mul_le_mul_of_nonneg_left (show (1 : Int) ≤ 128 ^ k by omega) (show (0 : Int) ≤ 9223372036854775808 by omega)
    omega
  · rcases Int.lt_or_le x 0 with g | g
    · have := Int.ediv_neg_of_neg_of_pos g hp; omega
    · exact Int.le_trans (Int.ediv_le_self _ g) h1

theorem fitS_any {x : Int} (h0 : -9223372036854775808 ≤ x) (h1 : x ≤ 9223372036854775807) (k : Nat) (a : 1 ≤ k) (b : k ≤ 9) : fitS x k ↔ anyB x (bit x 63) (7 * k - 1) 64 = false := by
  rw [any_none]; exact fitS_bits (by show -9223372036854775808 ≤ x; omega) (by show x < 9223372036854775808; omega) a b
theorem mod64_bit (x : Int) (j : Nat) (hj : j < 64) : bit (x % 18446744073709551616) j = bit x j := by
  unfold bit
  have e : (18446744073709551616 : Int) = 2 ^ j * 2 * 2 ^ (63 - j) := by
    rw [show (2 : Int) ^ j * 2 = 2 ^ (j + 1) from (Int.pow_succ 2 j).symm, ← Int.pow_add, show j + 1 + (63 - j) = 64 by omega]; rfl
  have hp := p2 j
  have e2 : x = x % 18446744073709551616 + 2 ^ j * (2 * 2 ^ (63 - j) * (x / 18446744073709551616)) := by
    rw [← Int.mul_assoc, ← Int.mul_assoc, ← e]; exact (Int.emod_add_mul_ediv x _).symm
  generalize x % 18446744073709551616 = y at *
  generalize x / 18446744073709551616 = z at *
  rw [e2, Int.add_mul_ediv_left _ _ (Int.ne_of_gt hp), Int.mul_assoc 2]
  congr 1
  omega
theorem bools_mod (x : Int) : bools (x % 18446744073709551616) 64 = bools x 64 := by
  unfold bools
  apply List.map_congr_left
  intro j hj
  rw [mod64_bit x j (List.mem_range.1 hj)]
theorem sign_bits {x : Int} (h0 : -9223372036854775808 ≤ x) (h1 : x ≤ 9223372036854775807) (j : Nat) (hj : 63 ≤ j) : bit x j = bit x 63 := by
  have h : x / 2 ^ 63 = 0 ∨ x / 2 ^ 63 = -1 := by
    show x / 9223372036854775808 = 0 ∨ x / 9223372036854775808 = -1
    omega
  rcases h with h | h
  · rw [from_same (a := 63) (t := false) (by simpa using h) j hj, from_same (a := 63) (t := false) (by simpa using h) 63 (by omega)]
  · rw [from_same (a := 63) (t := true) (by simpa using h) j hj, from_same (a := 63) (t := true) (by simpa using h) 63 (by omega)]

end Go.Proofs.YtihpnplfklbgjaaDoor

/- leb.Uint, leb.Int: what they hand back is a row of the call's own; a signed number's bytes. (By gen/genOwn.py from the leb layer.) -/
namespace Go.Proofs.YtihpnplfklbgjaaDoor
open Go.RowKit
set_option linter.unusedVariables false
set_option maxRecDepth 100000

def Owned (l : List Int) (w : World) (e : Ending) (w' : World) : Prop := ∃ v, e = .returned v ∧ w'.ownsRow w.heap.size 5 1 v l.length (cells l) ∧ Below w.heap.size w w'
theorem owned_own {w w' : World} {n : Nat} {v : Value} {l : List Int} (h : w'.ownsRow w.heap.size 5 1 v n (cells l)) (hn : l.length = n) (hb : Below w.heap.size w w') : Owned l w (.returned v) w' := by
  subst hn
  exact ⟨v, rfl, h, hb⟩
theorem own_end {x q : Int} {n k : Nat} {w w2 : World} {v : Value} (hq : q = x / 128 ^ k) (hn : Least (fitU x) n) (hno : ∀ m, 1 ≤ m → m ≤ k → ¬ fitU x m) (hf : q < 128)
    (ho : w2.ownsRow w.heap.size 5 1 v (k + 1) (cells (grps x k) ++ [.int .u8 q])) (hb : Below w.heap.size w w2) (h0 : 0 ≤ q) : Owned (grp x n) w (.returned v) w2 := by
  have hk : Least (fitU x) (k + 1) := ⟨by omega, by show x / 128 ^ k < 128; omega, fun m h1 h2 => hno m h1 (by omega)⟩
  obtain rfl := hk.unique hn
  have e : cells (grp x (k + 1)) = cells (grps x k) ++ [.int .u8 q] := by rw [grp_snoc, cells_snoc, ← hq, show q % 128 = q by omega]
  exact owned_own (by rw [e]; exact ho) (grp_length _ _) hb

set_option maxHeartbeats 400000 in
theorem uint_own (x : Int) (w : World) (h0 : 0 ≤ x) (h1 : x ≤ 18446744073709551615) {n : Nat} (hn : Least (fitU x) n) :
    Calls Tryd.prog 75 #[.int .u64 x] w (Owned (grp x n) w) := by
  have h10 : n ≤ 10 := hn.le (by omega) (fitU_ten x (by omega))
  obtain ⟨i0, hi0, hz0, hz1, hz2⟩ := info_parts infoB
  have HN := Lib.hid hn
  clear hn
  go_enter Tryd.func75, Tryd.ntmps75
  go_wp2_with (first
    | (go_at_call 102; go_must (refine (size_any _ _ h0 h1 HN.out).mono ?_; rintro e w' ⟨rfl, rfl⟩))
    | (at_make; refine wpList_make_own _ rfl _ _ _ rfl w.heap.size 5 i0 _ 1 Tryd.underlying29 hi0 hz0 hz1 .i64 .i64 _ n rfl rfl rfl (by rw [hz2]; omega) (by unfold maxLen; omega) (Nat.le_refl _) ?_; intro w1 hown1 hgrow1))
  have hbe1 : Below w.heap.size w w1 := below_of_gb hgrow1
  have HO := Lib.hid hown1
  have HB := Lib.hid hbe1
  clear hown1 hgrow1 hbe1
  go_loopw [3, 0] (fun b v wr => ∃ k : Nat, v = .int .u64 (x / 128 ^ k) ∧ wr.ownsRow w.heap.size 5 1 b k (cells (grps x k)) ∧ Below w.heap.size w wr ∧ ∀ m, 1 ≤ m → m ≤ k → ¬ fitU x m) (fun _ v _ => (intOf v).toNat)
  case atStart => exact ⟨0, by simp, HO.out, HB.out, fun m h1 h2 => by omega⟩
  case round =>
    obtain ⟨k, rfl, hown, hbe, hno⟩ := hrel
    obtain ⟨q, hq⟩ : ∃ q, q = x / 128 ^ k := ⟨_, rfl⟩
    have hq0 : 0 ≤ q := by rw [hq]; exact Int.ediv_nonneg h0 (Int.le_of_lt (p128 _))
    have hq1 : q ≤ 18446744073709551615 := by rw [hq]; exact Int.le_trans (Int.ediv_le_self _ h0) h1
    have hk : k ≤ 9 := by
      rcases Nat.lt_or_ge k 10 with g | g
      · omega
      · exact absurd (fitU_ten x (by omega)) (hno 10 (by omega) g)
    have hsz := hbe.size
    rw [← hq]
    have HQ := Lib.hid hq
    have HBE := Lib.hid hbe
    have HNO := Lib.hid hno
    have hor : bits .or .u8 (q % 256) 128 = q % 128 + 128 := byte_or q
    clear hq hbe hno
    by_cases hlt : 128 ≤ q
    · go_wp2_with (at_builtin; refine wpList_append_own _ rfl _ _ _ rfl w.heap.size 5 i0 _ 1 1 Tryd.underlying29 hi0 hz0 hz1 hz2 rfl (by omega) _ _ _ rfl (hown.alloc _) ⟨wr.heap.size, 0, none⟩ 1 1 [.int .u8 (q % 128 + 128)] rfl rfl (World.news_of_block (cs := #[.int .u8 (q % 128 + 128)]) (t := 5) (fr := (0, 0)) (heap_alloc_new wr _)) (by simp [Value.oneCell']) (by unfold maxLen; omega) (by omega) (by simp; omega) ?_; intro v' w2 hown2 hgrow2 _; have HO2 := Lib.hid hown2; have HG2 := Lib.hid hgrow2; clear hown2 hgrow2)
      go_roundw
      case rel => exact ⟨k + 1, by rw [pow_out, HQ.out], by rw [grps_snoc, cells_snoc, ← HQ.out]; exact HO2.out, below_append HBE.out hown HG2.out, no_more HNO.out (by rw [← HQ.out]; omega)⟩
      case measure => simp [intOf]; omega
    · go_wp2_with (at_builtin; refine wpList_append_own _ rfl _ _ _ rfl w.heap.size 5 i0 _ 1 1 Tryd.underlying29 hi0 hz0 hz1 hz2 rfl (by omega) _ _ _ rfl (hown.alloc _) ⟨wr.heap.size, 0, none⟩ 1 1 [.int .u8 q] rfl rfl (World.news_of_block (cs := #[.int .u8 q]) (t := 5) (fr := (0, 0)) (heap_alloc_new wr _)) (by simp [Value.oneCell']) (by unfold maxLen; omega) (by omega) (by simp; omega) ?_; intro v' w2 hown2 hgrow2 _; have HO2 := Lib.hid hown2; have HG2 := Lib.hid hgrow2; clear hown2 hgrow2)
      go_ret
      exact own_end HQ.out HN.out HNO.out (by omega) HO2.out (below_append HBE.out hown HG2.out) hq0

theorem own_endS {x q : Int} {n k : Nat} {w w2 : World} {v : Value} (hq : q = x / 128 ^ k) (hn : Least (fitS x) n) (hno : ∀ m, 1 ≤ m → m ≤ k → ¬ fitS x m) (hf : -64 ≤ q) (hf2 : q < 64)
    (ho : w2.ownsRow w.heap.size 5 1 v (k + 1) (cells (grps x k) ++ [.int .u8 (q % 128)])) (hb : Below w.heap.size w w2) : Owned (grp x n) w (.returned v) w2 := by
  have hk : Least (fitS x) (k + 1) := ⟨by omega, by show -64 ≤ x / 128 ^ k ∧ x / 128 ^ k < 64; omega, fun m h1 h2 => hno m h1 (by omega)⟩
  obtain rfl := hk.unique hn
  have e : cells (grp x (k + 1)) = cells (grps x k) ++ [.int .u8 (q % 128)] := by rw [grp_snoc, cells_snoc, ← hq]
  exact owned_own (by rw [e]; exact ho) (grp_length _ _) hb
theorem leastS (x : Int) (h0 : -9223372036854775808 ≤ x) (h1 : x ≤ 9223372036854775807) : ∃ n, Least (fitS x) n := least_find _ 10 (by omega) (fitS_ten x h0 (by omega))
/-- How many bytes a number with a sign takes. -/
noncomputable def sebN (x : Int) : Nat := if h : -9223372036854775808 ≤ x ∧ x ≤ 9223372036854775807 then (leastS x h.1 h.2).choose else 1
/-- A number's bytes, with a sign. -/
noncomputable def sebL (x : Int) : List UInt8 := (grp x (sebN x)).map fun c => UInt8.ofNat c.toNat
theorem sebN_least (x : Int) (h0 : -9223372036854775808 ≤ x) (h1 : x ≤ 9223372036854775807) : Least (fitS x) (sebN x) := by
  unfold sebN
  rw [dif_pos ⟨h0, h1⟩]
  exact (leastS x h0 h1).choose_spec
theorem nums_grp (x : Int) (n : Nat) : nums ((grp x n).map fun c => UInt8.ofNat c.toNat) = grp x n := by
  unfold nums
  rw [List.map_map]
  conv => rhs; rw [← List.map_id (grp x n)]
  apply List.map_congr_left
  intro c hc
  have := grp_bytes x _ c hc
  simp
  omega
theorem nums_sebL (x : Int) : nums (sebL x) = grp x (sebN x) := nums_grp x _
theorem sebL_length (x : Int) : (sebL x).length = sebN x := by unfold sebL; rw [List.length_map, grp_length]
theorem sebL_len (x : Int) (h0 : -9223372036854775808 ≤ x) (h1 : x ≤ 9223372036854775807) : 1 ≤ (sebL x).length ∧ (sebL x).length ≤ 10 := by
  rw [sebL_length]
  have h2 := sebN_least x h0 h1
  exact ⟨h2.1, h2.le (by omega) (fitS_ten x h0 (by omega))⟩
theorem bytesL_of {xs : List Int} {l : List UInt8} {w w' : World} {e : Ending} (h : Owned xs w e w') (hl : nums l = xs) : BytesL l w e w' := by
  obtain ⟨v, rfl, h1, h2⟩ := h
  subst hl
  rw [nums_length] at h1
  exact ⟨v, rfl, h1, h2⟩
theorem uintB (x : Int) (w : World) (h0 : 0 ≤ x) (h1 : x ≤ 18446744073709551615) : Calls Tryd.prog 75 #[.int .u64 x] w (BytesL (lebL x) w) :=
  (uint_own x w h0 h1 (lebN_least x h1)).mono fun _ _ h => bytesL_of h (nums_lebL x)
end Go.Proofs.YtihpnplfklbgjaaDoor

/- wire.Size, Name, Kind; small facts on fields. -/
namespace Go.Proofs.YtihpnplfklbgjaaDoor
open Go.RowKit Go.Lib
set_option linter.unusedVariables false
set_option maxRecDepth 100000

theorem be_of {a : Nat} {b : Int} {c : Bool} (h : decide ((a : Int) = b) = c) : ((a : Int) == b) = c := by rw [← h]; rfl
theorem nb_of {a : Nat} {b : Int} {c : Bool} (h : decide ((a : Int) ≠ b) = c) : ((a : Int) != b) = c := by rw [← h]; by_cases e : (a : Int) = b <;> simp [bne, e]
theorem zb_of {a : Int} {c : Bool} (h : decide (a ≠ 0) = c) : (a != 0) = c := by rw [← h]; by_cases e : a = 0 <;> simp [bne, e]
theorem i8_of {a b : UInt8} (h : (a.toNat : Int) = b.toNat) : a = b := UInt8.toNat_inj.1 (by omega)
theorem i32_of {a b : UInt32} (h : (a.toNat : Int) = b.toNat) : a = b := UInt32.toNat_inj.1 (by omega)
theorem three_boxes (w : World) (o1 o2 o3 : Obj) : Below w.heap.size w (((w.alloc o1).alloc o2).alloc o3) :=
  (((Below.refl _ _).alloc (Nat.le_refl _) o1).alloc (Nat.le_trans (Nat.le_refl _) (below_box w o1).size) o2).alloc (Nat.le_trans (below_box w o1).size (below_box (w.alloc o1) o2).size) o3
theorem S_beqM (a b : List UInt8) : ((S a).toList == (S b).toList) = decide (a = b) := by rw [S_toList, S_toList]; by_cases h : a = b <;> simp [h]
theorem ret_pair {v : Value} {a b : Int} (h : a = b) : Ending.returned (.tuple #[v, .int .i64 a]) = .returned (.tuple #[v, .int .i64 b]) := by rw [h]
noncomputable def nmL (s : List UInt8) : List UInt8 := lebL s.length ++ s
theorem u32_le (a : UInt32) : (a.toNat : Int) ≤ 4294967295 := by have := a.toNat_lt; omega
theorem u8_le (a : UInt8) : (a.toNat : Int) ≤ 255 := by have := a.toNat_lt; omega
theorem nmL_len {s : List UInt8} {n : Nat} (h : s.length ≤ n) (hn : n ≤ 100000) : 1 ≤ (nmL s).length ∧ (nmL s).length ≤ n + 10 := by
  have := lebL_len (s.length : Int) (by omega)
  unfold nmL
  rw [List.length_append]
  omega
theorem size_w (n : Nat) (w : World) (hn : n ≤ 1000000) : Calls Tryd.prog 76 #[.int .i64 n] w (BytesL (lebL n) w) := by
  have HU := Lib.hid (fun w => uintB (n : Int) w (by omega) (by omega))
  have wn : IntKind.u64.wrap (n : Int) = n := by simp [IntKind.wrap, IntKind.bits, IntKind.signed]; omega
  generalize lebL (n : Int) = y at *
  go_enter Tryd.func76, Tryd.ntmps76
  go_wp2_with (go_at_call 75; go_must ((with_reducible refine (HU.out _).mono ?_); intro e w1 h; obtain ⟨v, rfl, hr, hb⟩ := h; have HR := Lib.hid hr; have HB := Lib.hid hb; clear hr hb))
  go_ret
  exact ⟨_, rfl, HR.out, HB.out⟩
theorem sizedN_w (s : List UInt8) (w : World) (hs : s.length ≤ 100000) : Calls Tryd.prog 77 #[.string (S s)] w (BytesL (nmL s) w) := by
  have HZ := Lib.hid (fun w => size_w s.length w (by omega))
  have hlen := lebL_len (s.length : Int) (by omega)
  have hsz := S_size s
  unfold nmL
  generalize lebL (s.length : Int) = y at *
  go_enter Tryd.func77, Tryd.ntmps77
  go_wp2_with (first
    | (go_at_call 76; go_must ((with_reducible refine (HZ.out _).mono ?_); intro e w1 h; obtain ⟨v, rfl, hr, hb⟩ := h; have HR := Lib.hid hr; have HB := Lib.hid hb; have hz1 := hb.size; clear hr hb))
    | (at_builtin; (refine row_str rfl _ _ rfl w.heap.size _ y rfl HR.out s rfl (by omega) hz1 ?_; intro v2 w2 hr2 hb2; have HR2 := Lib.hid hr2; have HB2 := Lib.hid hb2; clear hr2 hb2)))
  go_ret
  exact ⟨_, rfl, HR2.out, HB.out.trans HB2.out⟩
theorem name_w (s : List UInt8) (w : World) (hs : s.length ≤ 100000) : Calls Tryd.prog 41 #[.string (S s)] w (BytesL (nmL s) w) := by
  have HZ := Lib.hid (sizedN_w s w hs)
  clear hs
  go_enter Tryd.func41, Tryd.ntmps41
  go_wp2_with (go_at_call 77; go_must ((with_reducible refine HZ.out.mono ?_); intro e w1 h; obtain ⟨v, rfl, hr, hb⟩ := h; have HR := Lib.hid hr; have HB := Lib.hid hb; clear hr hb))
  go_ret
  exact ⟨_, rfl, HR.out, HB.out⟩
theorem nk_ok {w : World} {p : Nat} {l : List UInt8} {k k1 : Nat} {c : UInt8} (h : Sc w p l k) (h1 : byteR l k = .ok c k1) (hc : c.toNat ≤ 3) :
    Calls Tryd.prog 95 #[.pointer (some ⟨p, 0, none⟩)] w fun e w' => e = .returned (.int .u8 c.toNat) ∧ Sc w' p l k1 ∧ w.grownBy w' (some p) := by
  have HA := Lib.hid (at_any h)
  have hB := byte_any h
  rw [h1] at hB
  have HB := Lib.hid hB
  have d1 : decide ((c.toNat : Int) ≤ 3) = true := decide_eq_true (by omega)
  clear hB h1 h hc
  go_enter Tryd.func95, Tryd.ntmps95
  go_wp2_with (first
    | (go_at_call 47; go_must ((with_reducible refine HA.out.mono ?_); rintro e w1 ⟨rfl, rfl⟩))
    | (go_at_call 85; go_must ((with_reducible refine HB.out.mono ?_); rintro e w1 ⟨rfl, hs, hg⟩; have HS := Lib.hid hs; have HG := Lib.hid hg; clear hs hg))
    | (go_at_call 48; go_must ((with_reducible refine (unlessT _ _ _).mono ?_); rintro e w' ⟨rfl, rfl⟩)))
  go_ret
  exact ⟨rfl, HS.out, HG.out⟩

theorem nameR_at {l s r : List UInt8} {k : Nat} (h : l.drop k = nmL s ++ r) (hs : s.length ≤ 200) (hv : validD s = true) : nmR l k = .ok s (k + (nmL s).length) := by
  unfold nmL at h ⊢
  rw [List.append_assoc] at h
  have m1 := lebL_len (s.length : Int) (by omega)
  have hd := drop_past h
  have e1 := congrArg List.length h
  have e2 := congrArg List.length hd
  simp only [List.length_drop, List.length_append] at e1 e2
  unfold nmR atMostR
  rw [indexR_at h (by omega) (by omega), Res.bind_ok, if_pos (by omega), Res.bind_ok, Int.toNat_natCast, hd, List.take_left, if_pos (by omega), if_pos hv, List.length_append, Nat.add_assoc]
theorem checkZ_zero {s : List UInt8} (h : checkZ s = 0) : s.length ≤ 200 ∧ validD s = true := by
  unfold checkZ at h
  split at h
  · omega
  · split at h
    · exact ⟨by omega, by assumption⟩
    · omega
theorem lebL_sm (x : Int) (h0 : 0 ≤ x) (h1 : x < 128) : lebL x = [UInt8.ofNat x.toNat] := by
  have hn : lebN x = 1 := (lebN_least x (by omega)).unique ⟨Nat.le_refl _, by unfold fitU; simpa using h1, fun m a b => by omega⟩
  unfold lebL
  rw [hn]
  simp [grp]
  congr 2
  omega
end Go.Proofs.YtihpnplfklbgjaaDoor

/- Rows of strings of the call's own; strings that lie somewhere. -/
namespace Go.Proofs.YtihpnplfklbgjaaDoor
open Go.RowKit
set_option linter.unusedVariables false
set_option maxRecDepth 100000

theorem infoStr : (Tryd.prog.info? 9).map (fun i => (i.zero, i.size, i.bytes)) = some (some (.string { data := #[] }), 1, 16) := by kernel_rfl
/-- A row of strings of the call's own. -/
def RowT (W : World) (base : Nat) (v : Value) (rows : List (List UInt8)) : Prop := W.ownsRow base 9 1 v rows.length (rows.map fun s => .string (S s))
theorem RowT.nil (W : World) (base : Nat) : RowT W base (.slice none 0 0) [] := World.ownsRow_nil W base _ 1
theorem RowT.slice {W : World} {base : Nat} {v : Value} {rows : List (List UInt8)} (h : RowT W base v rows) : ∃ A c, v = .slice A rows.length c := by
  rcases h.2 with ⟨rfl, h0⟩ | ⟨g, cap, cur, rfl, _⟩
  · exact ⟨none, 0, by rw [h0]⟩
  · exact ⟨_, cap, rfl⟩
theorem RowT.later {W W' : World} {base : Nat} {v : Value} {rows : List (List UInt8)} (h : RowT W base v rows) (hb : Below W.heap.size W W') : RowT W' base v rows :=
  World.ownsRow.kept h (gb_of_below none hb) (by cases v.ownBlock with
    | none => exact .inl rfl
    | some k => exact .inr (by simp))
theorem RowT.alloc {W : World} {base : Nat} {v : Value} {rows : List (List UInt8)} (h : RowT W base v rows) (o : Obj) : RowT (W.alloc o) base v rows := World.ownsRow.alloc h o
/-- append of a new block of one string. -/
theorem rowT_new {w : World} {ops : Array Oper} {rest : List Oper} {o : Oper} {a : Act} {Q : Exit → Act → World → Prop} (hgd : o.guard = none) (s x : Operand)
    (ho : o.op = .call { callee := .builtin .append, args := #[s, x], argTypes := #[23, 23] })
    (B : Nat) (v : Value) (l : List (List UInt8)) (hs : a.eval s = v) (hr : RowT w B v l) (g : Nat) (r : List UInt8) (hx : a.eval x = .slice (some ⟨g, 0, none⟩) 1 1)
    (hg : Whole w g 9 #[.string (S r)]) (hb : l.length ≤ 10000) (hB : B ≤ w.heap.size)
    (h : ∀ v' w', RowT w' B v' (l ++ [r]) → w.grownBy w' v.ownBlock → wpList Tryd.prog ops Q rest (a.put o.dst v') w') : wpList Tryd.prog ops Q (o :: rest) a w := by
  obtain ⟨i0, hi0, hz0, hz1, hz2⟩ := info_parts infoStr
  refine wpList_append_own _ hgd s x _ ho B 9 i0 _ 1 16 Tryd.underlying23 hi0 hz0 hz1 hz2 rfl (by omega) v _ _ hs hr ⟨g, 0, none⟩ 1 1 [.string (S r)] hx rfl ?_ ?_ (by unfold maxLen; omega) (by omega) hB (fun v' w' h2 h3 _ => h v' w' ?_ h3)
  · intro j u hu
    rw [Go.WideShapes.add_plain, Nat.zero_add, hg.cell, ← Array.getElem?_toList]
    exact hu
  · intro u hu
    simp only [List.mem_cons, List.not_mem_nil, or_false] at hu
    rcases hu with rfl
    rfl
  · unfold RowT
    rw [List.length_append, List.map_append]
    simpa using h2
/-- Nothing old has turned, and nothing of the row's own is lost. -/
theorem RowT.below {w W W' : World} {base : Nat} {v : Value} {rows : List (List UInt8)} (h : RowT W base v rows) (hB : base ≤ W.heap.size) (hg : W.grownBy W' v.ownBlock) : Below base W W' :=
  Below.grown (Below.refl _ _) hg hB (fun k hk => (World.ownsRow.lt h k hk).1)
/-- The slice at A reads as these strings. -/
def SlT (w : World) (A : Option Addr) (l : List (List UInt8)) : Prop :=
  ∀ j s, l[j]? = some s → ∃ b off, A = some ⟨b, off, none⟩ ∧ b < w.heap.size ∧ w.cell? ⟨b, off + j, none⟩ = some (.string (S s))
theorem SlT.below {w w' : World} {A : Option Addr} {l : List (List UInt8)} (h : SlT w A l) (hb : Below w.heap.size w w') : SlT w' A l := fun j x hx => by
  obtain ⟨b, off, e, h1, h2⟩ := h j x hx
  exact ⟨b, off, e, Nat.lt_of_lt_of_le h1 hb.size, (hb.cell (p := ⟨b, _, none⟩) h1).trans h2⟩
theorem RowT.slt {W : World} {base : Nat} {A : Option Addr} {n c : Nat} {rows : List (List UInt8)} (h : RowT W base (.slice A n c) rows) : SlT W A rows := fun j x hx => by
  have hj := (List.getElem?_eq_some_iff.1 hx).1
  rcases h.2 with ⟨_, h0⟩ | ⟨g, cap, cur, e, _, hg, _, _, _, ht⟩
  · omega
  · injection e with e1 e2 e3
    refine ⟨g, 0, e1, (Array.getElem?_eq_some_iff.1 hg).1, ?_⟩
    rw [cell_of_row W g (0 + j) cur _ _ hg]
    have h2 : (rows.map fun s => Value.string (S s))[j]? = some (.string (S x)) := by rw [List.getElem?_map, hx]; rfl
    rw [← ht, List.getElem?_take, if_pos (by omega)] at h2
    simpa using h2
end Go.Proofs.YtihpnplfklbgjaaDoor

/- What a module needs, as plain data; a box that holds it; what may be told (as plain functions). -/
namespace Go.Proofs.YtihpnplfklbgjaaDoor
open Go.RowKit
set_option linter.unusedVariables false
set_option maxRecDepth 100000

structure Dl where
  has : Bool
  ms : UInt32
  ma : UInt32
  ts : UInt32
  ta : UInt32
  nd : List (List UInt8)
/-- Its cells; the names lie at A. -/
abbrev dlC (x : Dl) (A : Option Addr) (c : Nat) : Array Value := #[.bool x.has, .int .u32 x.ms.toNat, .int .u32 x.ma.toNat, .int .u32 x.ts.toNat, .int .u32 x.ta.toNat, .slice A x.nd.length c]
abbrev dlV (x : Dl) (A : Option Addr) (c : Nat) : Value := .agg (dlC x A c)
abbrev dlZ : Array Value := #[.bool false, .int .u32 0, .int .u32 0, .int .u32 0, .int .u32 0, .slice none 0 0]
abbrev dl6 (W : World) (b : Nat) (x : Dl) (A : Option Addr) (c : Nat) : Prop :=
  W.cell? ⟨b, 0, none⟩ = some (.bool x.has) ∧ W.cell? ⟨b, 1, none⟩ = some (.int .u32 x.ms.toNat) ∧ W.cell? ⟨b, 2, none⟩ = some (.int .u32 x.ma.toNat) ∧ W.cell? ⟨b, 3, none⟩ = some (.int .u32 x.ts.toNat) ∧ W.cell? ⟨b, 4, none⟩ = some (.int .u32 x.ta.toNat) ∧ W.cell? ⟨b, 5, none⟩ = some (.slice A x.nd.length c)
theorem Whole.dl {w : World} {b : Nat} {t : TypeId} {x : Dl} {A : Option Addr} {c : Nat} (h : Whole w b t (dlC x A c)) : dl6 w b x A c := ⟨h.cell 0, h.cell 1, h.cell 2, h.cell 3, h.cell 4, h.cell 5⟩
/-- A block that holds it, in a world grown from B: what is held of it. -/
abbrev BxD (B : World) (b : Nat) (x : Dl) (A : Option Addr) (c : Nat) (W : World) : Prop := (Whole W b 25 (dlC x A c) ∧ Below B.heap.size B W) ∧ dl6 W b x A c
section
variable {B W W' : World} {b : Nat} {x : Dl} {A : Option Addr} {c : Nat}
theorem bxD_on (h : BxD B b x A c W) (hb : Below W.heap.size W W') : BxD B b x A c W' := ⟨⟨h.1.1.below hb, h.1.2.trans (hb.mono h.1.2.size)⟩, (h.1.1.below hb).dl⟩
theorem bxD_start (w : World) (x : Dl) (A : Option Addr) (c : Nat) : BxD w w.heap.size x A c (w.alloc (.cells (dlC x A c) 25)) := ⟨⟨Whole.made _ _ _, below_box _ _⟩, (Whole.made w 25 (dlC x A c)).dl⟩
theorem bxD_bel (h : BxD B b x A c W) : Below B.heap.size B W := h.1.2
theorem bxD_six (h : BxD B b x A c W) : dl6 W b x A c := h.2
end
/-- All six cells are stored. -/
theorem put6 {w : World} {b : Nat} {t : TypeId} {x0 x1 x2 x3 x4 x5 u0 u1 u2 u3 u4 u5 : Value} (hb : Whole w b t #[x0, x1, x2, x3, x4, x5]) :
    Whole ((((((w.setCell ⟨b, 0, none⟩ u0).setCell ⟨b, 1, none⟩ u1).setCell ⟨b, 2, none⟩ u2).setCell ⟨b, 3, none⟩ u3).setCell ⟨b, 4, none⟩ u4).setCell ⟨b, 5, none⟩ u5) b t #[u0, u1, u2, u3, u4, u5] ∧
    w.grownBy ((((((w.setCell ⟨b, 0, none⟩ u0).setCell ⟨b, 1, none⟩ u1).setCell ⟨b, 2, none⟩ u2).setCell ⟨b, 3, none⟩ u3).setCell ⟨b, 4, none⟩ u4).setCell ⟨b, 5, none⟩ u5) (some b) :=
  ⟨(((((hb.put 0 u0).put 1 u1).put 2 u2).put 3 u3).put 4 u4).put 5 u5,
   gb_put (p := ⟨b, 5, none⟩) (gb_put (p := ⟨b, 4, none⟩) (gb_put (p := ⟨b, 3, none⟩) (gb_put (p := ⟨b, 2, none⟩) (gb_put (p := ⟨b, 1, none⟩) (gb_put (p := ⟨b, 0, none⟩) (gb_refl w (some b)) (.inl rfl) u0) (.inl rfl) u1) (.inl rfl) u2) (.inl rfl) u3) (.inl rfl) u4) (.inl rfl) u5⟩
theorem dl_no8 {x : Dl} {A : Option Addr} {c : Nat} (i : Nat) (n : Int) : (dlC x A c)[i]? ≠ some (.int .u8 n) := by
  match i with
  | 0 | 1 | 2 | 3 | 4 | 5 => simp [dlC]
  | i + 6 => simp [dlC]
/-- Nothing is told. -/
def AllZ (x : Dl) : Prop := x.ms.toNat = 0 ∧ x.ma.toNat = 0 ∧ x.ts.toNat = 0 ∧ x.ta.toNat = 0 ∧ x.nd.length = 0
open Classical in
noncomputable def noZ (x : Dl) : Int := if AllZ x then 0 else 15
/-- The first error of a name, or that it stands there already. -/
def nmGo (seen : List (List UInt8)) : List (List UInt8) → Int
  | [] => 0
  | s :: r => if checkZ s ≠ 0 then checkZ s else if s ∈ seen then 27 else nmGo (seen ++ [s]) r
open Classical in
/-- May it be? -/
noncomputable def drZ (x : Dl) : Int := if x.has = true then (if 20 < x.ma.toNat ∨ 20 < x.ta.toNat then 25 else if 200 < x.nd.length then 29 else nmGo [] x.nd) else noZ x
theorem drop_at {α : Type} {l : List α} {k : Nat} {s : α} (h : l[k]? = some s) : l.drop k = s :: l.drop (k + 1) := by
  obtain ⟨h1, h2⟩ := List.getElem?_eq_some_iff.1 h
  rw [List.drop_eq_getElem_cons h1, h2]
theorem take_at {α : Type} {l : List α} {k : Nat} {s : α} (h : l[k]? = some s) : l.take (k + 1) = l.take k ++ [s] := by rw [List.take_add_one, h]; rfl
theorem nmGo_drop {l : List (List UInt8)} {k : Nat} {s : List UInt8} (h : l[k]? = some s) : nmGo (l.take k) (l.drop k) = if checkZ s ≠ 0 then checkZ s else if s ∈ l.take k then 27 else nmGo (l.take (k + 1)) (l.drop (k + 1)) := by
  rw [drop_at h, take_at h]
  rfl
/-- None of these is it. -/
theorem mem_take_iff {l : List (List UInt8)} {k : Nat} {s : List UInt8} (hk : k ≤ l.length) : s ∈ l.take k ↔ ∃ j, j < k ∧ l[j]? = some s := by
  constructor
  · intro h
    obtain ⟨j, hj⟩ := List.getElem?_of_mem h
    have hlt := (List.getElem?_eq_some_iff.1 hj).1
    rw [List.length_take] at hlt
    rw [List.getElem?_take, if_pos (by omega)] at hj
    exact ⟨j, by omega, hj⟩
  · rintro ⟨j, hj, h⟩
    exact List.mem_of_getElem? (i := j) (by rw [List.getElem?_take, if_pos hj]; exact h)
end Go.Proofs.YtihpnplfklbgjaaDoor

/- dylink.nothing, names, Right; creelref16.Right. (By gen/genR.py.) -/
namespace Go.Proofs.YtihpnplfklbgjaaDoor
open Go.RowKit
set_option linter.unusedVariables false
set_option maxRecDepth 100000

set_option maxHeartbeats 4000000 in
theorem nothing_dl (x : Dl) (A : Option Addr) (c : Nat) (w : World) : Calls Tryd.prog 42 #[dlV x A c] w fun e w' => e = .returned (.int .i64 (noZ x)) ∧ Below w.heap.size w w' := by
  have H0 := Lib.hid (bxD_start w x A c)
  obtain ⟨c0, c1, c2, c3, c4, c5⟩ := H0.out.2
  by_cases z0 : x.ms.toNat = 0
  rotate_left
  · have hz : noZ x = 15 := if_neg (fun h => z0 h.1)
    rw [hz]
    have d0 : ((x.ms.toNat : Int) != 0) = true := nb_of (decide_eq_true (by omega))
    clear hz z0
    go_enter Tryd.func42, Tryd.ntmps42
    go_wp2
    go_ret
    exact ⟨rfl, bxD_bel H0.out⟩
  by_cases z1 : x.ma.toNat = 0
  rotate_left
  · have hz : noZ x = 15 := if_neg (fun h => z1 h.2.1)
    rw [hz]
    have d0 : ((x.ms.toNat : Int) != 0) = false := nb_of (decide_eq_false (by omega))
    have d1 : ((x.ma.toNat : Int) != 0) = true := nb_of (decide_eq_true (by omega))
    clear hz z0 z1
    go_enter Tryd.func42, Tryd.ntmps42
    go_wp2
    go_ret
    exact ⟨rfl, bxD_bel H0.out⟩
  by_cases z2 : x.ts.toNat = 0
  rotate_left
  · have hz : noZ x = 15 := if_neg (fun h => z2 h.2.2.1)
    rw [hz]
    have d0 : ((x.ms.toNat : Int) != 0) = false := nb_of (decide_eq_false (by omega))
    have d1 : ((x.ma.toNat : Int) != 0) = false := nb_of (decide_eq_false (by omega))
    have d2 : ((x.ts.toNat : Int) != 0) = true := nb_of (decide_eq_true (by omega))
    clear hz z0 z1 z2
    go_enter Tryd.func42, Tryd.ntmps42
    go_wp2
    go_ret
    exact ⟨rfl, bxD_bel H0.out⟩
  by_cases z3 : x.ta.toNat = 0
  rotate_left
  · have hz : noZ x = 15 := if_neg (fun h => z3 h.2.2.2.1)
    rw [hz]
    have d0 : ((x.ms.toNat : Int) != 0) = false := nb_of (decide_eq_false (by omega))
    have d1 : ((x.ma.toNat : Int) != 0) = false := nb_of (decide_eq_false (by omega))
    have d2 : ((x.ts.toNat : Int) != 0) = false := nb_of (decide_eq_false (by omega))
    have d3 : ((x.ta.toNat : Int) != 0) = true := nb_of (decide_eq_true (by omega))
    clear hz z0 z1 z2 z3
    go_enter Tryd.func42, Tryd.ntmps42
    go_wp2
    go_ret
    exact ⟨rfl, bxD_bel H0.out⟩
  by_cases z4 : x.nd.length = 0
  rotate_left
  · have hz : noZ x = 15 := if_neg (fun h => z4 h.2.2.2.2)
    rw [hz]
    have d0 : ((x.ms.toNat : Int) != 0) = false := nb_of (decide_eq_false (by omega))
    have d1 : ((x.ma.toNat : Int) != 0) = false := nb_of (decide_eq_false (by omega))
    have d2 : ((x.ts.toNat : Int) != 0) = false := nb_of (decide_eq_false (by omega))
    have d3 : ((x.ta.toNat : Int) != 0) = false := nb_of (decide_eq_false (by omega))
    have d4 : ((x.nd.length : Int) != 0) = true := nb_of <| decide_eq_true (by omega)
    clear hz z0 z1 z2 z3 z4
    go_enter Tryd.func42, Tryd.ntmps42
    go_wp2
    go_ret
    exact ⟨rfl, bxD_bel H0.out⟩
  · have hz : noZ x = 0 := if_pos ⟨z0, z1, z2, z3, z4⟩
    rw [hz]
    have d0 : ((x.ms.toNat : Int) != 0) = false := nb_of (decide_eq_false (by omega))
    have d1 : ((x.ma.toNat : Int) != 0) = false := nb_of (decide_eq_false (by omega))
    have d2 : ((x.ts.toNat : Int) != 0) = false := nb_of (decide_eq_false (by omega))
    have d3 : ((x.ta.toNat : Int) != 0) = false := nb_of (decide_eq_false (by omega))
    have d4 : ((x.nd.length : Int) != 0) = false := nb_of <| decide_eq_false (by omega)
    clear hz z0 z1 z2 z3 z4
    go_enter Tryd.func42, Tryd.ntmps42
    go_wp2
    go_ret
    exact ⟨rfl, bxD_bel H0.out⟩
/-- A slice of strings cut at its head. -/
theorem cut_strs (W : World) (A : Option Addr) (k n c : Nat) (hk : k ≤ n) (hn : n ≤ c) (b off : Nat) (hA : A = some ⟨b, off, none⟩) (h0 : 0 < c) :
    (Instr.slice 23 (.slice A n c) none (some (.int .i64 (k : Int))) none).run Tryd.prog W = .ok (.slice A k c) W := by
  subst hA
  have ht : Tryd.prog.underlying 23 = some (.slice (Tryd.prog.elem 23)) := by simp [Program.elem, Tryd.underlying23]
  have he : Tryd.prog.elem 23 = 9 := by simp [Program.elem, Tryd.underlying23]
  rw [run_slice_h W 23 _ n c ht .i64 (k : Int) (by omega) (by omega), he, Tryd.sizeOf9]
  have hc : ¬ c = 0 := by omega
  simp [Result.andThen, sliced, hc, Addr.add]
set_option maxHeartbeats 2000000 in
/-- slices.Index of a string. -/
theorem index_strs {w : World} {A : Option Addr} {c k : Nat} {l : List (List UInt8)} (s : List UInt8) (hl : SlT w A l) (hk : k ≤ l.length) (hn : l.length ≤ 10000) :
    Calls Tryd.prog 104 #[.slice A k c, .string (S s)] w fun e w' => ∃ z : Int, e = .returned (.int .i64 z) ∧ Below w.heap.size w w' ∧ (decide (0 ≤ z) = decide (s ∈ l.take k)) := by
  have HL := Lib.hid hl
  have HK := Lib.hid hk
  obtain ⟨P, hP⟩ : ∃ P : Bool, P = decide (s ∈ l.take k) := ⟨_, rfl⟩
  rw [← hP]
  have HPP := Lib.hid hP
  clear hl hP
  go_enter Tryd.func104, Tryd.ntmps104
  go_wp2
  go_loopw [8] (fun i wr => ∃ j : Nat, j ≤ k ∧ i = .int .i64 j ∧ s ∉ l.take j ∧ Below w.heap.size w wr) (fun i _ => k - (intOf i).toNat)
  case atStart => exact ⟨0, Nat.zero_le _, rfl, by simp, Below.refl _ _⟩
  case round =>
    obtain ⟨j, hj, rfl, hm, hb⟩ := hrel
    by_cases hlt : j < k
    · obtain ⟨t, ht⟩ : ∃ t, l[j]? = some t := ⟨_, List.getElem?_eq_getElem (by have := HK.out; omega)⟩
      obtain ⟨b, off, rfl, hbl, m0⟩ := HL.out.below hb j t ht
      have HB := Lib.hid hb
      by_cases e : s = t
      · have d1 : ((S s).toList == (S t).toList) = true := by rw [S_beqM, decide_eq_true e]
        have HY := Lib.hid (show P = true by rw [HPP.out]; exact decide_eq_true ((mem_take_iff HK.out).2 ⟨j, hlt, by rw [e]; exact ht⟩))
        clear e hm hb ht
        go_wp2
        go_ret
        exact ⟨(j : Int), rfl, HB.out, by rw [HY.out]; exact decide_eq_true (by omega)⟩
      · have d1 : ((S s).toList == (S t).toList) = false := by rw [S_beqM, decide_eq_false e]
        have HM := Lib.hid (show s ∉ l.take (j + 1) by rw [take_at ht]; intro h; rcases List.mem_append.1 h with h | h; exact hm h; rw [List.mem_singleton] at h; exact e h)
        clear e hm hb ht
        go_wp2
        go_roundw
        case rel => exact ⟨j + 1, by omega, by go_num, HM.out, HB.out⟩
        case measure => simp [intOf]; omega
    · obtain rfl : j = k := by omega
      have HB := Lib.hid hb
      have HY := Lib.hid (show P = false by rw [HPP.out]; exact decide_eq_false hm)
      clear hb hm
      go_wp2
      go_ret
      exact ⟨-1, rfl, HB.out, by rw [HY.out]; rfl⟩
theorem contains_strs {w : World} {A : Option Addr} {c k : Nat} {l : List (List UInt8)} (s : List UInt8) (hl : SlT w A l) (hk : k ≤ l.length) (hn : l.length ≤ 10000) :
    Calls Tryd.prog 79 #[.slice A k c, .string (S s)] w fun e w' => e = .returned (.bool (decide (s ∈ l.take k))) ∧ Below w.heap.size w w' := by
  have HI := Lib.hid (index_strs (c := c) s hl hk hn)
  generalize decide (s ∈ l.take k) = P at *
  clear hl hk hn
  go_enter Tryd.func79, Tryd.ntmps79
  go_wp2_with (go_at_call 104; go_must ((with_reducible refine HI.out.mono ?_); intro e w1 hq; obtain ⟨z, rfl, hb, hz⟩ := hq; have HB := Lib.hid hb; have HZ := Lib.hid hz; clear hb hz))
  go_ret
  exact ⟨by rw [← HZ.out]; rfl, HB.out⟩
set_option maxHeartbeats 4000000 in
theorem names_dl {w : World} {A : Option Addr} {c : Nat} {l : List (List UInt8)} (hl : SlT w A l) (hn : l.length ≤ 10000) (hnc : l.length ≤ c) (hs : ∀ s ∈ l, s.length ≤ 1000000) (hT : TabsU w) :
    Calls Tryd.prog 43 #[.slice A l.length c] w fun e w' => e = .returned (.int .i64 (nmGo [] l)) ∧ Below w.heap.size w w' := by
  have HL := Lib.hid hl
  have HT := Lib.hid hT
  have HSz := Lib.hid hs
  obtain ⟨R, hR⟩ : ∃ R, R = nmGo [] l := ⟨_, rfl⟩
  rw [← hR]
  have HR := Lib.hid hR
  obtain ⟨n, hnn⟩ : ∃ n, n = l.length := ⟨_, rfl⟩
  have HN := Lib.hid hnn
  rw [← hnn] at hn hnc ⊢
  clear hl hT hs hR hnn
  go_enter Tryd.func43, Tryd.ntmps43
  go_wp2
  go_loopw [8] (fun i wr => ∃ k : Nat, k ≤ n ∧ i = .int .i64 k ∧ nmGo (l.take k) (l.drop k) = R ∧ Below w.heap.size w wr) (fun i _ => n - (intOf i).toNat)
  case atStart => exact ⟨0, Nat.zero_le _, rfl, by rw [HR.out]; rfl, Below.refl _ _⟩
  case round =>
    obtain ⟨k, hk, rfl, hg, hb⟩ := hrel
    by_cases hlt : k < n
    · obtain ⟨s, hx⟩ : ∃ s, l[k]? = some s := ⟨_, List.getElem?_eq_getElem (by rw [← HN.out]; exact hlt)⟩
      obtain ⟨b, off, hA, hbl, m0⟩ := HL.out.below hb k s hx
      have HC := Lib.hid (checkU_any s wr (HSz.out s (List.mem_of_getElem? hx)) (HT.out.below hb))
      have hcut := fun W => cut_strs W A k n c (by omega) hnc b off hA (by omega)
      have HLW := Lib.hid (HL.out.below hb)
      have HCo := Lib.hid (fun W (h : Below wr.heap.size wr W) => contains_strs (c := c) (k := k) s (HLW.out.below h) (by rw [← HN.out]; omega) (by rw [← HN.out]; exact hn))
      rw [nmGo_drop hx] at hg
      have HB := Lib.hid hb
      subst hA
      by_cases hz : checkZ s = 0
      · rw [if_neg (by simpa using hz)] at hg
        rw [hz] at HC
        by_cases hm : s ∈ l.take k
        · rw [if_pos hm] at hg
          have HCo2 := Lib.hid (fun W (h : Below wr.heap.size wr W) => show Calls Tryd.prog 79 #[.slice (some ⟨b, off, none⟩) k c, .string (S s)] W fun e w' => e = .returned (.bool true) ∧ Below W.heap.size W w' from by have := HCo.out W h; rwa [decide_eq_true hm] at this)
          have HG := Lib.hid hg
          clear hz hm hg hx hb HCo HLW
          go_wp2_with (first
            | (go_at_call 78; go_must ((with_reducible refine HC.out.mono ?_); rintro e w2 ⟨rfl, hb⟩; have HB2 := Lib.hid hb; clear hb))
            | (go_at_call 79; go_must ((with_reducible refine (HCo2.out _ HB2.out).mono ?_); rintro e w3 ⟨rfl, hb⟩; have HB3 := Lib.hid hb; clear hb)))
          go_ret
          exact ⟨(by rw [← HG.out]; rfl), (HB.out.trans (HB2.out.mono HB.out.size)).trans (HB3.out.mono (Nat.le_trans HB.out.size HB2.out.size))⟩
        · rw [if_neg hm] at hg
          have HCo2 := Lib.hid (fun W (h : Below wr.heap.size wr W) => show Calls Tryd.prog 79 #[.slice (some ⟨b, off, none⟩) k c, .string (S s)] W fun e w' => e = .returned (.bool false) ∧ Below W.heap.size W w' from by have := HCo.out W h; rwa [decide_eq_false hm] at this)
          have HG := Lib.hid hg
          clear hz hm hg hx hb HCo HLW
          go_wp2_with (first
            | (go_at_call 78; go_must ((with_reducible refine HC.out.mono ?_); rintro e w2 ⟨rfl, hb⟩; have HB2 := Lib.hid hb; clear hb))
            | (go_at_call 79; go_must ((with_reducible refine (HCo2.out _ HB2.out).mono ?_); rintro e w3 ⟨rfl, hb⟩; have HB3 := Lib.hid hb; clear hb)))
          go_roundw
          case rel => exact ⟨k + 1, by omega, by go_num, HG.out, (HB.out.trans (HB2.out.mono HB.out.size)).trans (HB3.out.mono (Nat.le_trans HB.out.size HB2.out.size))⟩
          case measure => simp [intOf]; omega
      · rw [if_pos hz] at hg
        have dz : (checkZ s != 0) = true := zb_of (by simpa using hz)
        generalize checkZ s = z at *
        have HG := Lib.hid hg
        clear hz hg hx hb HCo HLW
        go_wp2_with (go_at_call 78; go_must ((with_reducible refine HC.out.mono ?_); rintro e w2 ⟨rfl, hb⟩; have HB2 := Lib.hid hb; clear hb))
        go_ret
        exact ⟨(by rw [← HG.out]; rfl), HB.out.trans (HB2.out.mono HB.out.size)⟩
    · have hkn : k = l.length := by rw [← HN.out]; omega
      rw [hkn, List.drop_length] at hg
      have HG := Lib.hid (show (0 : Int) = R from hg)
      have HB := Lib.hid hb
      clear hg hb hkn
      go_wp2
      go_ret
      exact ⟨(by rw [← HG.out]; rfl), HB.out⟩
set_option maxHeartbeats 4000000 in
theorem right_dl {w : World} {x : Dl} {A : Option Addr} {c : Nat} (hl : SlT w A x.nd) (hn : x.nd.length ≤ 10000) (hnc : x.nd.length ≤ c) (hs : ∀ s ∈ x.nd, s.length ≤ 1000000) (hT : TabsU w) :
    Calls Tryd.prog 11 #[dlV x A c] w fun e w' => e = .returned (.int .i64 (drZ x)) ∧ Below w.heap.size w w' := by
  have H0 := Lib.hid (bxD_start w x A c)
  obtain ⟨c0, c1, c2, c3, c4, c5⟩ := H0.out.2
  have hbx := below_box w (.cells (dlC x A c) 25)
  have HNM := Lib.hid (names_dl (hl.below hbx) hn hnc hs (hT.below hbx))
  have HNO := Lib.hid (nothing_dl x A c (w.alloc (.cells (dlC x A c) 25)))
  clear hl hT hs hnc hbx
  by_cases hh : x.has = true
  · rw [hh] at c0
    by_cases h1 : 20 < x.ma.toNat
    · have hr : drZ x = 25 := by unfold drZ; rw [if_pos hh, if_pos (.inl h1)]
      rw [hr]
      have d1 : decide ((20 : Int) < (x.ma.toNat : Int)) = true := decide_eq_true (by omega)
      clear hr h1 HNM HNO hn
      go_enter Tryd.func11, Tryd.ntmps11
      go_wp2
      go_ret
      exact ⟨rfl, bxD_bel H0.out⟩
    have d1 : decide ((20 : Int) < (x.ma.toNat : Int)) = false := decide_eq_false (by omega)
    by_cases h2 : 20 < x.ta.toNat
    · have hr : drZ x = 25 := by unfold drZ; rw [if_pos hh, if_pos (.inr h2)]
      rw [hr]
      have d2 : decide ((20 : Int) < (x.ta.toNat : Int)) = true := decide_eq_true (by omega)
      clear hr h1 h2 HNM HNO hn
      go_enter Tryd.func11, Tryd.ntmps11
      go_wp2
      go_ret
      exact ⟨rfl, bxD_bel H0.out⟩
    have d2 : decide ((20 : Int) < (x.ta.toNat : Int)) = false := decide_eq_false (by omega)
    by_cases h3 : 200 < x.nd.length
    · have hr : drZ x = 29 := by unfold drZ; rw [if_pos hh, if_neg (by omega), if_pos h3]
      rw [hr]
      have d3 : decide ((200 : Int) < (x.nd.length : Int)) = true := decide_eq_true (by omega)
      clear hr h1 h2 h3 HNM HNO hn
      go_enter Tryd.func11, Tryd.ntmps11
      go_wp2
      go_ret
      exact ⟨rfl, bxD_bel H0.out⟩
    have d3 : decide ((200 : Int) < (x.nd.length : Int)) = false := decide_eq_false (by omega)
    have hr : drZ x = nmGo [] x.nd := by unfold drZ; rw [if_pos hh, if_neg (by omega), if_neg h3]
    rw [hr]
    generalize nmGo [] x.nd = z at *
    clear hr h1 h2 h3 HNO hn
    go_enter Tryd.func11, Tryd.ntmps11
    go_wp2_with (go_at_call 43; go_must ((with_reducible refine HNM.out.mono ?_); rintro e w2 ⟨rfl, hb⟩; have H1 := Lib.hid (bxD_on H0.out hb); clear hb))
    go_ret
    exact ⟨rfl, bxD_bel H1.out⟩
  · have hr : drZ x = noZ x := by unfold drZ; rw [if_neg hh]
    rw [hr]
    have hf : x.has = false := by simpa using hh
    have HNO2 := Lib.hid (show Calls Tryd.prog 42 #[.agg #[.bool false, .int .u32 x.ms.toNat, .int .u32 x.ma.toNat, .int .u32 x.ts.toNat, .int .u32 x.ta.toNat, .slice A x.nd.length c]] (w.alloc (.cells (dlC x A c) 25)) _ from by rw [← hf]; exact HNO.out)
    rw [hf] at c0
    generalize noZ x = z at *
    clear hr hh hf HNM HNO hn
    go_enter Tryd.func11, Tryd.ntmps11
    go_wp2_with (go_at_call 42; go_must ((with_reducible refine HNO2.out.mono ?_); rintro e w2 ⟨rfl, hb⟩; have H1 := Lib.hid (bxD_on H0.out hb); clear hb))
    go_ret
    exact ⟨rfl, bxD_bel H1.out⟩
set_option maxHeartbeats 8000000 in
theorem rright_dl {w : World} {x : Dl} {A : Option Addr} {c : Nat} (hl : SlT w A x.nd) (hn : x.nd.length ≤ 10000) (hs : ∀ s ∈ x.nd, s.length ≤ 1000000) :
    Calls Tryd.prog 9 #[dlV x A c] w fun e w' => e = .returned (.int .i64 (drZ x)) ∧ Below w.heap.size w w' := by
  have H0 := Lib.hid (bxD_start w x A c)
  obtain ⟨c0, c1, c2, c3, c4, c5⟩ := H0.out.2
  have HL := Lib.hid hl
  have HSz := Lib.hid hs
  clear hl hs
  by_cases hh : x.has = true
  · rw [hh] at c0
    by_cases h1 : 20 < x.ma.toNat
    · have hr : drZ x = 25 := by unfold drZ; rw [if_pos hh, if_pos (.inl h1)]
      rw [hr]
      have d1 : decide ((20 : Int) < (x.ma.toNat : Int)) = true := decide_eq_true (by omega)
      clear hr h1 hn
      go_enter Tryd.func9, Tryd.ntmps9
      go_wp2
      go_ret
      exact ⟨rfl, bxD_bel H0.out⟩
    have d1 : decide ((20 : Int) < (x.ma.toNat : Int)) = false := decide_eq_false (by omega)
    by_cases h2 : 20 < x.ta.toNat
    · have hr : drZ x = 25 := by unfold drZ; rw [if_pos hh, if_pos (.inr h2)]
      rw [hr]
      have d2 : decide ((20 : Int) < (x.ta.toNat : Int)) = true := decide_eq_true (by omega)
      clear hr h1 h2 hn
      go_enter Tryd.func9, Tryd.ntmps9
      go_wp2
      go_ret
      exact ⟨rfl, bxD_bel H0.out⟩
    have d2 : decide ((20 : Int) < (x.ta.toNat : Int)) = false := decide_eq_false (by omega)
    by_cases h3 : 200 < x.nd.length
    · have hr : drZ x = 29 := by unfold drZ; rw [if_pos hh, if_neg (by omega), if_pos h3]
      rw [hr]
      have d3 : decide ((200 : Int) < (x.nd.length : Int)) = true := decide_eq_true (by omega)
      clear hr h1 h2 h3 hn
      go_enter Tryd.func9, Tryd.ntmps9
      go_wp2
      go_ret
      exact ⟨rfl, bxD_bel H0.out⟩
    have d3 : decide ((200 : Int) < (x.nd.length : Int)) = false := decide_eq_false (by omega)
    have hr : drZ x = nmGo [] x.nd := by unfold drZ; rw [if_pos hh, if_neg (by omega), if_neg h3]
    rw [hr]
    obtain ⟨R, hR⟩ : ∃ R, R = nmGo [] x.nd := ⟨_, rfl⟩
    rw [← hR]
    have HR := Lib.hid hR
    clear hr h1 h2 h3 hR
    obtain ⟨n, hnn⟩ : ∃ n, n = x.nd.length := ⟨_, rfl⟩
    have HN := Lib.hid hnn
    go_enter Tryd.func9, Tryd.ntmps9
    go_wp2
    go_loopw [3] (fun i wr => ∃ k : Nat, k ≤ x.nd.length ∧ i = .int .i64 k ∧ nmGo (x.nd.take k) (x.nd.drop k) = R ∧ BxD w w.heap.size x A c wr) (fun i _ => x.nd.length - (intOf i).toNat)
    case atStart => exact ⟨0, Nat.zero_le _, rfl, by rw [HR.out]; rfl, H0.out⟩
    case round =>
      obtain ⟨k, hk, rfl, hg, hb⟩ := hrel
      clear c0 c1 c2 c3 c4 c5
      obtain ⟨c0, c1, c2, c3, c4, c5⟩ := hb.2
      have hbel := hb.1.2
      have HB := Lib.hid hb
      by_cases hlt : k < x.nd.length
      · obtain ⟨s, hx⟩ : ∃ s, x.nd[k]? = some s := ⟨_, List.getElem?_eq_getElem hlt⟩
        obtain ⟨b, off, hA, hbl, m0⟩ := HL.out.below hbel k s hx
        rw [nmGo_drop hx] at hg
        have HLW := Lib.hid (HL.out.below hbel)
        have ss := S_size s
        subst hA
        by_cases hz2 : 200 < s.length
        · have hz : checkZ s = 13 := by unfold checkZ; rw [if_pos hz2]
          rw [hz, if_pos (by decide)] at hg
          have ds : decide ((200 : Int) < (s.length : Int)) = true := decide_eq_true (by omega)
          have HG := Lib.hid hg
          clear hz hz2 hg hx hb hbel HLW
          go_wp2
          go_ret
          exact ⟨(by rw [← HG.out]; rfl), bxD_bel HB.out⟩
        have ds : decide ((200 : Int) < (s.length : Int)) = false := decide_eq_false (by omega)
        have HC := Lib.hid (fun W => refCount_any s W (HSz.out s (List.mem_of_getElem? hx)))
        by_cases hv : Lib.validD s = true
        · have hc : countZ s = (Lib.runeCountL s : Int) := by unfold countZ; rw [if_pos hv]
          have hd2 : decide (countZ s < 0) = false := decide_eq_false (by rw [hc]; omega)
          have hz : checkZ s = 0 := by unfold checkZ; rw [if_neg hz2, if_pos hv]
          rw [hz, if_neg (by decide)] at hg
          generalize countZ s = z at *
          have HG := Lib.hid hg
          have HX := Lib.hid hx
          clear hg hx hb hbel hc hv hz hz2
          go_wp2_with (go_at_call 36; go_must ((with_reducible refine (HC.out _).mono ?_); rintro e w2 ⟨rfl, hb⟩; have H2 := Lib.hid (bxD_on HB.out hb); have HL2 := Lib.hid (HLW.out.below hb); clear c0 c1 c2 c3 c4 c5; obtain ⟨c0, c1, c2, c3, c4, c5⟩ := H2.out.2; clear hb))
          go_loopw [4] (fun i wr => ∃ j : Nat, j ≤ k ∧ i = .int .i64 j ∧ s ∉ x.nd.take j ∧ BxD w w.heap.size x (some ⟨b, off, none⟩) c wr ∧ SlT wr (some ⟨b, off, none⟩) x.nd) (fun i _ => k - (intOf i).toNat)
          case atStart => exact ⟨0, Nat.zero_le _, rfl, by simp, H2.out, HL2.out⟩
          case round =>
            obtain ⟨j, hj, rfl, hm, hb3, hl3⟩ := hrel
            clear c0 c1 c2 c3 c4 c5
            obtain ⟨c0, c1, c2, c3, c4, c5⟩ := hb3.2
            have H3 := Lib.hid hb3
            by_cases hjk : j < k
            · obtain ⟨t, ht⟩ : ∃ t, x.nd[j]? = some t := ⟨_, List.getElem?_eq_getElem (by omega)⟩
              obtain ⟨b2, off2, hA2, hbl2, p0⟩ := hl3 j t ht
              injection hA2 with hA2
              injection hA2 with q1 q2
              subst q1; subst q2
              obtain ⟨b3, off3, hA3, hbl3, p1⟩ := hl3 k s HX.out
              injection hA3 with hA3
              injection hA3 with q1 q2
              subst q1; subst q2
              have HL3 := Lib.hid hl3
              by_cases e : s = t
              · have de : ((S s).toList == (S t).toList) = true := by rw [S_beqM, decide_eq_true e]
                have hg := HG.out
                rw [if_pos ((mem_take_iff (by omega)).2 ⟨j, hjk, by rw [e]; exact ht⟩)] at hg
                have HY := Lib.hid hg
                clear e hm hb3 hl3 ht hg
                go_wp2
                go_quiet (fail)
                go_wp2
                go_ret
                exact ⟨(by rw [← HY.out]; rfl), below_drewN (bxD_bel H3.out) _⟩
              · have de : ((S s).toList == (S t).toList) = false := by rw [S_beqM, decide_eq_false e]
                have HM := Lib.hid (show s ∉ x.nd.take (j + 1) by rw [take_at ht]; intro h; rcases List.mem_append.1 h with h | h; exact hm h; rw [List.mem_singleton] at h; exact e h)
                clear e hm hb3 hl3 ht
                go_wp2
                go_quiet (fail)
                go_wp2
                go_roundw
                case rel => exact ⟨j + 1, by omega, by go_num, HM.out, bxD_on H3.out (below_drewN (Below.refl _ _) _), HL3.out.below (below_drewN (Below.refl _ _) _)⟩
                case measure => simp [intOf]; omega
            · obtain rfl : j = k := by omega
              have hg := HG.out
              rw [if_neg hm] at hg
              have HY := Lib.hid hg
              clear hm hb3 hl3 hg
              go_wp2
              go_roundw
              case rel => exact ⟨j + 1, by omega, by go_num, HY.out, H3.out⟩
              case measure => simp [intOf]; omega
        · have hc : countZ s = -1 := by unfold countZ; rw [if_neg hv]
          have hd2 : decide (countZ s < 0) = true := decide_eq_true (by rw [hc]; omega)
          have hz : checkZ s = 4 := by unfold checkZ; rw [if_neg hz2, if_neg hv]
          rw [hz, if_pos (by decide)] at hg
          generalize countZ s = z at *
          have HG := Lib.hid hg
          clear hg hx hb hbel hc hv hz hz2
          go_wp2_with (go_at_call 36; go_must ((with_reducible refine (HC.out _).mono ?_); rintro e w2 ⟨rfl, hb⟩; have H2 := Lib.hid (bxD_on HB.out hb); clear hb))
          go_ret
          exact ⟨(by rw [← HG.out]; rfl), bxD_bel H2.out⟩
      · have hkn : k = x.nd.length := by omega
        rw [hkn, List.drop_length] at hg
        have HG := Lib.hid (show (0 : Int) = R from hg)
        clear hg hb hkn hbel
        go_wp2
        go_ret
        exact ⟨(by rw [← HG.out]; rfl), bxD_bel HB.out⟩
  · have hr : drZ x = noZ x := by unfold drZ; rw [if_neg hh]
    rw [hr]
    have hf : x.has = false := by simpa using hh
    rw [hf] at c0
    clear hr hh hf hn
    by_cases z0 : x.ms.toNat = 0
    rotate_left
    · have hz : noZ x = 15 := if_neg (fun h => z0 h.1)
      rw [hz]
      have d0 : ((x.ms.toNat : Int) != 0) = true := nb_of (decide_eq_true (by omega))
      clear hz z0
      go_enter Tryd.func9, Tryd.ntmps9
      go_wp2
      go_ret
      exact ⟨rfl, bxD_bel H0.out⟩
    by_cases z1 : x.ma.toNat = 0
    rotate_left
    · have hz : noZ x = 15 := if_neg (fun h => z1 h.2.1)
      rw [hz]
      have d0 : ((x.ms.toNat : Int) != 0) = false := nb_of (decide_eq_false (by omega))
      have d1 : ((x.ma.toNat : Int) != 0) = true := nb_of (decide_eq_true (by omega))
      clear hz z0 z1
      go_enter Tryd.func9, Tryd.ntmps9
      go_wp2
      go_ret
      exact ⟨rfl, bxD_bel H0.out⟩
    by_cases z2 : x.ts.toNat = 0
    rotate_left
    · have hz : noZ x = 15 := if_neg (fun h => z2 h.2.2.1)
      rw [hz]
      have d0 : ((x.ms.toNat : Int) != 0) = false := nb_of (decide_eq_false (by omega))
      have d1 : ((x.ma.toNat : Int) != 0) = false := nb_of (decide_eq_false (by omega))
      have d2 : ((x.ts.toNat : Int) != 0) = true := nb_of (decide_eq_true (by omega))
      clear hz z0 z1 z2
      go_enter Tryd.func9, Tryd.ntmps9
      go_wp2
      go_ret
      exact ⟨rfl, bxD_bel H0.out⟩
    by_cases z3 : x.ta.toNat = 0
    rotate_left
    · have hz : noZ x = 15 := if_neg (fun h => z3 h.2.2.2.1)
      rw [hz]
      have d0 : ((x.ms.toNat : Int) != 0) = false := nb_of (decide_eq_false (by omega))
      have d1 : ((x.ma.toNat : Int) != 0) = false := nb_of (decide_eq_false (by omega))
      have d2 : ((x.ts.toNat : Int) != 0) = false := nb_of (decide_eq_false (by omega))
      have d3 : ((x.ta.toNat : Int) != 0) = true := nb_of (decide_eq_true (by omega))
      clear hz z0 z1 z2 z3
      go_enter Tryd.func9, Tryd.ntmps9
      go_wp2
      go_ret
      exact ⟨rfl, bxD_bel H0.out⟩
    by_cases z4 : x.nd.length = 0
    rotate_left
    · have hz : noZ x = 15 := if_neg (fun h => z4 h.2.2.2.2)
      rw [hz]
      have d0 : ((x.ms.toNat : Int) != 0) = false := nb_of (decide_eq_false (by omega))
      have d1 : ((x.ma.toNat : Int) != 0) = false := nb_of (decide_eq_false (by omega))
      have d2 : ((x.ts.toNat : Int) != 0) = false := nb_of (decide_eq_false (by omega))
      have d3 : ((x.ta.toNat : Int) != 0) = false := nb_of (decide_eq_false (by omega))
      have d4 : decide (0 < x.nd.length) = true := decide_eq_true (by omega)
      clear hz z0 z1 z2 z3 z4
      go_enter Tryd.func9, Tryd.ntmps9
      go_wp2
      go_ret
      exact ⟨rfl, bxD_bel H0.out⟩
    · have hz : noZ x = 0 := if_pos ⟨z0, z1, z2, z3, z4⟩
      rw [hz]
      have d0 : ((x.ms.toNat : Int) != 0) = false := nb_of (decide_eq_false (by omega))
      have d1 : ((x.ma.toNat : Int) != 0) = false := nb_of (decide_eq_false (by omega))
      have d2 : ((x.ts.toNat : Int) != 0) = false := nb_of (decide_eq_false (by omega))
      have d3 : ((x.ta.toNat : Int) != 0) = false := nb_of (decide_eq_false (by omega))
      have d4 : decide (0 < x.nd.length) = false := decide_eq_false (by omega)
      clear hz z0 z1 z2 z3 z4
      go_enter Tryd.func9, Tryd.ntmps9
      go_wp2
      go_ret
      exact ⟨rfl, bxD_bel H0.out⟩
end Go.Proofs.YtihpnplfklbgjaaDoor
