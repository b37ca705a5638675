/- A block of one, two, four cells, all written. -/
import Derived.Test.YtebgmfjgapmpfabDoorQi09
import Derived.Test.YtebgmfjgapmpfabDoorQi03
import Derived.Test.YtebgmfjgapmpfabDoorQi04
import Derived.StillTailTactics
import Derived.Test.YtebgmfjgapmpfabDoorQi02
import Derived.Test.YtebgmfjgapmpfabDoorQi08
import Derived.Deep.RegionLaw
import Derived.Test.YtebgmfjgapmpfabDoorQi01
import Derived.Test.YtebgmfjgapmpfabDoorQi07
import Derived.Test.YtebgmfjgapmpfabDoorQi05
namespace Go.Proofs.YtebgmfjgapmpfabDoor
open Go.RowKit
set_option linter.unusedVariables false

theorem put1 {w : World} {b : Nat} {t : TypeId} {x0 u0 : Value} (hb : Whole w b t #[x0]) : Whole (w.setCell ⟨b, 0, none⟩ u0) b t #[u0] ∧ w.grownBy (w.setCell ⟨b, 0, none⟩ u0) (some b) := ⟨(hb.put 0 u0), (gb_put (p := ⟨b, 0, none⟩) (gb_refl w _) (.inl rfl) u0)⟩
theorem put2 {w : World} {b : Nat} {t : TypeId} {x0 x1 u0 u1 : Value} (hb : Whole w b t #[x0, x1]) : Whole ((w.setCell ⟨b, 0, none⟩ u0).setCell ⟨b, 1, none⟩ u1) b t #[u0, u1] ∧ w.grownBy ((w.setCell ⟨b, 0, none⟩ u0).setCell ⟨b, 1, none⟩ u1) (some b) := ⟨((hb.put 0 u0).put 1 u1), (gb_put (p := ⟨b, 1, none⟩) (gb_put (p := ⟨b, 0, none⟩) (gb_refl w _) (.inl rfl) u0) (.inl rfl) u1)⟩
theorem put4 {w : World} {b : Nat} {t : TypeId} {x0 x1 x2 x3 u0 u1 u2 u3 : Value} (hb : Whole w b t #[x0, x1, x2, x3]) : Whole ((((w.setCell ⟨b, 0, none⟩ u0).setCell ⟨b, 1, none⟩ u1).setCell ⟨b, 2, none⟩ u2).setCell ⟨b, 3, none⟩ u3) b t #[u0, u1, u2, u3] ∧ w.grownBy ((((w.setCell ⟨b, 0, none⟩ u0).setCell ⟨b, 1, none⟩ u1).setCell ⟨b, 2, none⟩ u2).setCell ⟨b, 3, none⟩ u3) (some b) := ⟨((((hb.put 0 u0).put 1 u1).put 2 u2).put 3 u3), (gb_put (p := ⟨b, 3, none⟩) (gb_put (p := ⟨b, 2, none⟩) (gb_put (p := ⟨b, 1, none⟩) (gb_put (p := ⟨b, 0, none⟩) (gb_refl w _) (.inl rfl) u0) (.inl rfl) u1) (.inl rfl) u2) (.inl rfl) u3)⟩
end Go.Proofs.YtebgmfjgapmpfabDoor

/- The reference's reader: how far it is; Fail, Byte, Num, Index, Count, nought, whatever it is. -/
namespace Go.Proofs.YtebgmfjgapmpfabDoor
open Go.RowKit
set_option linter.unusedVariables false
set_option maxRecDepth 100000

/-- A place, or an error and its place. -/
inductive RSt where
  | at (k : Nat)
  | bad (c a : Int)
def RSt.why : RSt → Int
  | .at _ => 0
  | .bad c _ => c
def RSt.off : RSt → Int
  | .at _ => 0
  | .bad _ a => a
def RSt.bind {β : Type} (s : RSt) (f : Nat → Res β) : Res β := match s with
  | .at k => f k
  | .bad c a => .err c a
def RSt.fail (s : RSt) (c a : Int) : RSt := match s with
  | .at _ => .bad c a
  | .bad c2 a2 => .bad c2 a2
def stOf {α : Type} : Res α → RSt
  | .ok _ k => .at k
  | .err c a => .bad c a
def RSt.Right (s : RSt) (l : List UInt8) (k : Int) : Prop := match s with
  | .at j => k = j ∧ j ≤ l.length
  | .bad c _ => c ≠ 0
section
variable {w w' : World} {q : Nat} {l : List UInt8} {s : RSt} {k : Nat} {c a : Int}
end

/-- A byte, or 0. -/
def v8 : Res UInt8 → Int
  | .ok c _ => c.toNat
  | .err _ _ => 0
/-- .. with a sign. -/
def readM : Res Int → Value
  | .ok v k => .tuple #[.int .u64 (v % 2 ^ 64), .int .i64 k, .int .i64 0]
  | .err c _ => .tuple #[.int .u64 0, .int .i64 0, .int .i64 c]
end Go.Proofs.YtebgmfjgapmpfabDoor

/- The reference's reader: Num, Index, Count, nought. -/
namespace Go.Proofs.YtebgmfjgapmpfabDoor
open Go.RowKit
set_option linter.unusedVariables false
set_option maxRecDepth 100000

/-- A number, or 0. -/
def vZ : Res Int → Int
  | .ok v _ => v
  | .err _ _ => 0
def vM : Res Int → Int
  | .ok v _ => v % 2 ^ 64
  | .err _ _ => 0
/-- What is held while a number is read. -/
abbrev HNum (w : World) (q : Nat) (v0 v1 : Value) (W : World) : Prop := Below w.heap.size w W ∧ W.cell? ⟨q, 0, none⟩ = some v0 ∧ W.cell? ⟨q, 1, none⟩ = some v1
theorem hnum_on {w : World} {q : Nat} {v0 v1 : Value} {W W' : World} (h : HNum w q v0 v1 W) (hq : q < w.heap.size) (hb : Below W.heap.size W W') : HNum w q v0 v1 W' :=
  ⟨h.1.trans (hb.mono h.1.size), (hb.cell (p := ⟨q, 0, none⟩) (by show q < _; have := h.1.size; omega)).trans h.2.1, (hb.cell (p := ⟨q, 1, none⟩) (by show q < _; have := h.1.size; omega)).trans h.2.2⟩
theorem hnum_start {w : World} {q : Nat} {v0 v1 : Value} (c0 : w.cell? ⟨q, 0, none⟩ = some v0) (c1 : w.cell? ⟨q, 1, none⟩ = some v1) (n : Nat) : HNum w q v0 v1 (w.drewN n) := ⟨⟨rfl, rfl, rfl, Nat.le_refl _, fun _ _ => rfl⟩, c0, c1⟩
theorem hnum_bel {w : World} {q : Nat} {v0 v1 : Value} {W : World} (h : HNum w q v0 v1 W) : Below w.heap.size w W := h.1
theorem vZ_bd {l : List UInt8} {s : RSt} : 0 ≤ vZ (s.bind (indexR l)) ∧ vZ (s.bind (indexR l)) ≤ 4294967295 := by
  cases s with
  | bad c a => exact ⟨Int.le_refl _, by show (0 : Int) ≤ _; omega⟩
  | «at» k =>
    show 0 ≤ vZ (indexR l k) ∧ vZ (indexR l k) ≤ 4294967295
    cases hr : indexR l k with
    | err c a => exact ⟨Int.le_refl _, by show (0 : Int) ≤ _; omega⟩
    | ok v k' => exact (indexR_ok hr).2
end Go.Proofs.YtebgmfjgapmpfabDoor

/- What the reference's Get keeps on its way; its labels in a row of its own. -/
namespace Go.Proofs.YtebgmfjgapmpfabDoor
open Go.RowKit
set_option linter.unusedVariables false
set_option maxRecDepth 100000

theorem gb_of_drew {w w' : World} {row : Option Nat} {n : Nat} (h : (w.drewN n).grownBy w' row) : w.grownBy w' row := ⟨h.os, h.tape, h.output, h.size, h.block⟩
theorem gb_of_drew1 {w w' : World} {row : Option Nat} (h : w.drew.grownBy w' row) : w.grownBy w' row := ⟨h.os, h.tape, h.output, h.size, h.block⟩
theorem byteR_nz {l : List UInt8} {k : Nat} {c a : Int} (h : byteR l k = .err c a) : c ≠ 0 := by
  unfold byteR at h
  cases hc : l[k]? with
  | none => rw [hc] at h; injection h with h1 h2; omega
  | some d => rw [hc] at h; cases h
theorem indexR_nz {l : List UInt8} {k : Nat} {c a : Int} (h : indexR l k = .err c a) : c ≠ 0 := by
  have := (uintR_err (show uintR l k 32 = .err c a from h)).2
  omega
theorem intR_nz {l : List UInt8} {k n : Nat} {c a : Int} (h : intR l k n = .err c a) : c ≠ 0 := by
  have := (intR_err h).2
  omega
theorem noughtR_nz {l : List UInt8} {k : Nat} {c a : Int} (h : noughtR l k = .err c a) : c ≠ 0 := by
  unfold noughtR at h
  cases hr : byteR l k with
  | err e b => rw [hr, Res.bind_err] at h; injection h with h1 h2; have := byteR_nz hr; omega
  | ok d p =>
    rw [hr, Res.bind_ok] at h
    by_cases hd : d = 0
    · rw [if_pos hd] at h; cases h
    · rw [if_neg hd] at h; injection h with h1 h2; omega

section
variable {w : World} {q : Nat} {l : List UInt8} {H2 : Nat} {A : Option Addr} {ls : List Int} {s s' : RSt} {v0 v1 v2 v3 : Value} {W W' : World} {c : Int} {vb v v' : Value} {acc : List Int}
end
/-- At a step of a region that draws its order: append of a new block of one number. -/
theorem step32 {w : World} {ops : Array Oper} {o : Oper} {a : Act} {K : Act → World → Prop} {Q : Exit → Act → World → Prop} {E : Prop} (hgd : o.guard = none) (s x : Operand)
    (ho : o.op = .call { callee := .builtin .append, args := #[s, x], argTypes := #[35, 35] })
    (B : Nat) (v : Value) (acc : List Int) (hs : a.eval s = v) (hr : w.ownsRow B 61 1 v acc.length (cells32 acc)) (g : Nat) (y : Int) (hx : a.eval x = .slice (some ⟨g, 0, none⟩) 1 1)
    (hg : Whole w g 61 #[.int .u32 y]) (hb : acc.length ≤ 10000) (hB : B ≤ w.heap.size)
    (h : ∀ v' w', w'.ownsRow B 61 1 v' (acc ++ [y]).length (cells32 (acc ++ [y])) → w.grownBy w' v.ownBlock → K (a.put o.dst v') w') :
    if Region.wanted o (yielded ops a.tmps) = true then Oper.wp Tryd.prog o a w K Q else E := by
  have hw : Region.wanted o (yielded ops a.tmps) = true := by simp [Region.wanted, hgd]
  rw [if_pos hw]
  obtain ⟨i0, hi0, hz0, hz1, hz2⟩ := info_parts info32
  refine wp_append_own _ s x _ ho B 61 i0 _ 1 4 Tryd.underlying35 hi0 hz0 hz1 hz2 rfl (by omega) v _ _ hs hr ⟨g, 0, none⟩ 1 1 [.int .u32 y] hx rfl ?_ ?_ (by unfold maxLen; omega) (by omega) hB (fun v' w' h2 h3 _ => h v' w' ?_ h3)
  · intro j u hu
    rw [Go.WideShapes.add_plain, Nat.zero_add, hg.cell]
    simpa using hu
  · intro u hu
    simp only [List.mem_cons, List.not_mem_nil, or_false] at hu
    subst hu
    rfl
  · rw [List.length_append]
    unfold cells32 at *
    rw [List.map_append]
    simpa using h2

/-- The labels' loop: j of n are read. -/
def Inv32 (l : List UInt8) (n j : Nat) (s : RSt) (acc : List Int) (R : Res (List Int)) : Prop := match s with
  | .at p => acc.length = j ∧ idxK l (n - j) p acc = R
  | .bad c a => R = .err c a
theorem count_start {l : List UInt8} {k : Nat} : ∃ (n : Nat) (s0 : RSt), n ≤ 10000 ∧ (vZ (countR l k) = n ∧ stOf (countR l k) = s0) ∧ Inv32 l n 0 s0 [] (labelsR l k) := by
  unfold labelsR
  cases hr : countR l k with
  | err c a => exact ⟨0, .bad c a, by omega, ⟨rfl, rfl⟩, rfl⟩
  | ok v p =>
    obtain ⟨v0, v1⟩ := countR_ok hr
    refine ⟨v.toNat, .at p, by omega, ⟨?_, rfl⟩, rfl, rfl⟩
    show v = _
    omega
theorem index_step {l : List UInt8} {n j p : Nat} {acc : List Int} {R : Res (List Int)} (h : ((indexR l p).bind fun x q2 => idxK l (n - (j + 1)) q2 (acc ++ [x])) = R) (ha : acc.length = j) (hj : j < n) :
    ∃ (x : Int) (s2 : RSt), 0 ≤ x ∧ x ≤ 4294967295 ∧ (vZ (indexR l p) = x ∧ stOf (indexR l p) = s2) ∧ Inv32 l n (j + 1) s2 (acc ++ [x]) R := by
  cases hr : indexR l p with
  | err c a =>
    rw [hr, Res.bind_err] at h
    exact ⟨0, .bad c a, by omega, by omega, ⟨rfl, rfl⟩, h.symm⟩
  | ok x q2 =>
    rw [hr, Res.bind_ok] at h
    obtain ⟨_, h1, h2⟩ := indexR_ok hr
    exact ⟨x, .at q2, h1, h2, ⟨rfl, rfl⟩, by simp; omega, h⟩
end Go.Proofs.YtebgmfjgapmpfabDoor

/- The reference's Get of any bytes. (By gen/genRefG.py.) -/
namespace Go.Proofs.YtebgmfjgapmpfabDoor
open Go.RowKit
set_option linter.unusedVariables false
set_option maxRecDepth 100000

theorem wrap8 (c : UInt8) : IntKind.u8.wrap (c.toNat : Int) = c.toNat := by have := c.toNat_lt; simp [IntKind.wrap, IntKind.bits, IntKind.signed]; omega
theorem wrap64u {x : Int} (h0 : 0 ≤ x) (h1 : x ≤ 4294967295) : IntKind.u64.wrap x = x := by simp [IntKind.wrap, IntKind.bits, IntKind.signed]; omega
end Go.Proofs.YtebgmfjgapmpfabDoor

/- Scanner.End of whatever is left; the reference's ValType, Global, End, whatever its state. -/
namespace Go.Proofs.YtebgmfjgapmpfabDoor
open Go.RowKit
set_option linter.unusedVariables false
set_option maxRecDepth 100000

/-- The reference's End. -/
def endS (l : List UInt8) : RSt → RSt
  | .at k => if k < l.length then .bad 14 k else .at k
  | .bad c a => .bad c a
end Go.Proofs.YtebgmfjgapmpfabDoor

/- The reference's constant expression of any bytes. (By gen/genRefC.py.) -/
namespace Go.Proofs.YtebgmfjgapmpfabDoor
open Go.RowKit
set_option linter.unusedVariables false
set_option maxRecDepth 100000

section
variable {w : World} {q : Nat} {l : List UInt8} {H2 : Nat} {A : Option Addr} {ls : List Int} {s s' : RSt} {v0 v1 v2 v3 : Value} {W W' : World}
end
end Go.Proofs.YtebgmfjgapmpfabDoor

/- The reference's instruction and constant expression behind an error; whatever the reader's state. -/
namespace Go.Proofs.YtebgmfjgapmpfabDoor
open Go.RowKit
set_option linter.unusedVariables false
set_option maxRecDepth 100000

end Go.Proofs.YtebgmfjgapmpfabDoor

/- Few laws that every layer wants: strings of bytes that lie somewhere, boxes, fields; wire.Size. -/
namespace Go.Proofs.YtebgmfjgapmpfabDoor
open Go.RowKit
set_option linter.unusedVariables false
set_option maxRecDepth 100000

theorem be_of {a : Nat} {b : Int} {c : Bool} (h : decide ((a : Int) = b) = c) : ((a : Int) == b) = c := by rw [← h]; rfl
theorem nb_of {a : Nat} {b : Int} {c : Bool} (h : decide ((a : Int) ≠ b) = c) : ((a : Int) != b) = c := by rw [← h]; by_cases e : (a : Int) = b <;> simp [bne, e]
theorem zb_of {a : Int} {c : Bool} (h : decide (a ≠ 0) = c) : (a != 0) = c := by rw [← h]; by_cases e : a = 0 <;> simp [bne, e]
theorem i8_of {a b : UInt8} (h : (a.toNat : Int) = b.toNat) : a = b := UInt8.toNat_inj.1 (by omega)
theorem i32_of {a b : UInt32} (h : (a.toNat : Int) = b.toNat) : a = b := UInt32.toNat_inj.1 (by omega)
theorem S_beqM (a b : List UInt8) : ((S a).toList == (S b).toList) = decide (a = b) := by rw [S_toList, S_toList]; by_cases h : a = b <;> simp [h]
theorem ret_pair {v : Value} {a b : Int} (h : a = b) : Ending.returned (.tuple #[v, .int .i64 a]) = .returned (.tuple #[v, .int .i64 b]) := by rw [h]
theorem u32_le (a : UInt32) : (a.toNat : Int) ≤ 4294967295 := by have := a.toNat_lt; omega
theorem u8_le (a : UInt8) : (a.toNat : Int) ≤ 255 := by have := a.toNat_lt; omega
theorem below_new {w w1 w2 : World} {q : Nat} (h : Below w.heap.size w w1) (hg : w1.grownBy w2 (some q)) (hq : w.heap.size ≤ q) : Below w.heap.size w w2 :=
  Below.grown h hg h.size (fun g e => by injection e with e; omega)
/-- A block of bytes that reads as it was made, marked or not. -/
theorem lies_made (w : World) (xs : List UInt8) (fz : Nat × Nat) : Lies (w.alloc (.cells (cells (nums xs)).toArray 5 fz)) (w.heap.size + 1) (some ⟨w.heap.size, 0, none⟩) (cells (nums xs)) := fun i v hv => by
  refine ⟨w.heap.size, 0, rfl, by omega, ?_⟩
  rw [Nat.zero_add, cell_of_row _ w.heap.size i _ _ fz (heap_alloc_new w _)]
  simpa using hv
theorem made_2 (w : World) (o : Obj) (t : TypeId) (cs : Array Value) : Whole ((w.alloc o).alloc (.cells cs t)) (w.heap.size + 1) t cs := by
  have h := Whole.made (w.alloc o) t cs
  rwa [size_box] at h
/-- string(b) of whatever lies. -/
theorem str_any {w : World} {B : Nat} {A : Option Addr} {o : List UInt8} (h : Lies w B A (cells (nums o))) (c : Nat) :
    ∀ dst, Tryd.prog.underlying dst = some .string → (convert 41 dst (.slice A o.length c)).run Tryd.prog w = .ok (.string (S o)) w := by
  by_cases h0 : 0 < (nums o).length
  · have := str_lies h h0 c Tryd.underlying41 Tryd.underlying5
    rw [strOfNums_nums, nums_length] at this
    exact this
  · have ho : o = [] := List.eq_nil_of_length_eq_zero (by rw [nums_length] at h0; omega)
    subst ho
    intro dst hd
    rw [run_convert_bytes_string w _ dst 5 _ _ c Tryd.underlying41 Tryd.underlying5 hd]
    have e : S [] = ByteArray.empty := rfl
    rw [e]
    cases A <;> simp [Conv.bytesToString, loadCells]
    all_goals rfl
/-- Bytes that lie somewhere in this world; whose slice is nil only without room. -/
structure Pc (A : Option Addr) (c : Nat) (l : List UInt8) (w : World) : Prop where
  lies : Lies w w.heap.size A (cells (nums l))
  nil : A = none → c = 0
theorem Pc.below {A : Option Addr} {c : Nat} {l : List UInt8} {w w' : World} (h : Pc A c l w) (hb : Below w.heap.size w w') : Pc A c l w' := ⟨(h.lies.below hb (Nat.le_refl _)).more hb.size, h.nil⟩
theorem Pc.from {A : Option Addr} {c : Nat} {l : List UInt8} {w w' : World} {B : Nat} (h : Lies w B A (cells (nums l))) (hn : A = none → c = 0) (hB : B ≤ w.heap.size) (hb : Below w.heap.size w w') : Pc A c l w' := ⟨(h.below hb hB).more (Nat.le_trans hB hb.size), hn⟩
theorem Row.pc {w : World} {B : Nat} {v : Value} {xs : List UInt8} (h : Row w B v xs) : ∃ A c, v = .slice A xs.length c ∧ Pc A c xs w := by
  have h' := h
  obtain ⟨h1, h2⟩ := h
  obtain ⟨A, c, e, h3, h4, h5, _⟩ := lies_own h'
  refine ⟨A, c, e, h5, fun hA => ?_⟩
  rcases h2 with ⟨e2, _⟩ | ⟨g, cap, cur, e2, _⟩
  · rw [e] at e2
    injection e2
  · rw [e, hA] at e2
    injection e2 with e3
    cases e3
theorem Pc.room {A : Option Addr} {c : Nat} {l : List UInt8} {w : World} (h : Pc A c l w) : A = none → c = 0 := h.nil
end Go.Proofs.YtebgmfjgapmpfabDoor

/- The reference's num, signed, Put. (By gen/genRefPut.py.) -/
namespace Go.Proofs.YtebgmfjgapmpfabDoor
open Go.RowKit
set_option linter.unusedVariables false
set_option maxRecDepth 100000

def StrPost (l : List UInt8) (w : World) (e : Ending) (w' : World) : Prop := e = .returned (.string (S l)) ∧ Below w.heap.size w w'
theorem num_any (x : Int) (w : World) (h0 : 0 ≤ x) (h1 : x ≤ 18446744073709551615) : Calls Tryd.prog 78 #[.int .u64 x] w (StrPost (lebL x) w) := by
  have U := Lib.hid (fun W => refUintL x W h0 h1)
  have hl := (lebL_len x h1).1
  generalize lebL x = l at *
  go_enter Tryd.func78, Tryd.ntmps78
  go_wp2_with (go_at_call 59; go_must ((with_reducible refine (U.out _).mono ?_); intro e w1 h; obtain ⟨A, k, rfl, hl1, hb⟩ := h; have hs := str_lies' hl1 hl k; have HB := Lib.hid hb; clear hb hl1))
  go_ret
  exact ⟨rfl, HB.out⟩
theorem conv1 {W : World} {op : UInt8} {H : Nat} (hH : W.heap.size = H) : (convert 41 9 (.slice (some ⟨H, 0, none⟩) 1 1)).run Tryd.prog (W.alloc (.cells #[.int .u8 op.toNat] 5)) = .ok (.string (S [op])) (W.alloc (.cells #[.int .u8 op.toNat] 5)) := by
  obtain ⟨A, c, e, h⟩ := (Row.made W [op] 0 H hH (Nat.zero_le _) (by simp)).str
  injection e with e1 _ e2
  subst e1; subst e2
  exact h 9 Tryd.underlying9
theorem conv2 {W : World} {op H : Nat} (hH : W.heap.size = H) (x : Int) (h0 : 0 ≤ x) (h1 : x ≤ 255) : (convert 41 9 (.slice (some ⟨H, 0, none⟩) 1 1)).run Tryd.prog (W.alloc (.cells #[.int .u8 x] 5)) = .ok (.string (S [UInt8.ofNat x.toNat])) (W.alloc (.cells #[.int .u8 x] 5)) := by
  have := conv1 (op := UInt8.ofNat x.toNat) hH
  rwa [u8_of h0 h1] at this

theorem signed32_any (x : Int) (w : World) (h0 : 0 ≤ x) (h1 : x ≤ 18446744073709551615) : Calls Tryd.prog 79 #[.int .u64 x, .int .u64 32] w (StrPost (sebL (s32 x)) w) := by
  have hs : -9223372036854775808 ≤ s32 x ∧ s32 x ≤ 9223372036854775807 := by unfold s32; omega
  have U := Lib.hid (fun W => refIntL (s32 x) W hs.1 hs.2)
  have hl := (sebL_len (s32 x) hs.1 hs.2).1
  have hz : wrap64 (IntKind.u64.wrap (x * 4294967296)) / 4294967296 = s32 x := by unfold s32 wrap64; simp only [IntKind.wrap, IntKind.bits, IntKind.signed]; simp; omega
  generalize s32 x = z at *
  generalize sebL z = l at *
  go_enter Tryd.func79, Tryd.ntmps79
  go_wp2_with (go_at_call 102; go_must ((with_reducible refine (U.out _).mono ?_); intro e w1 h; obtain ⟨A, k, rfl, hl1, hb⟩ := h; have hs2 := str_lies' hl1 hl k; have HB := Lib.hid hb; clear hb hl1))
  go_ret
  exact ⟨rfl, HB.out⟩

theorem signed64_any (x : Int) (w : World) (h0 : 0 ≤ x) (h1 : x ≤ 18446744073709551615) : Calls Tryd.prog 79 #[.int .u64 x, .int .u64 64] w (StrPost (sebL (s64 x)) w) := by
  have hs : -9223372036854775808 ≤ s64 x ∧ s64 x ≤ 9223372036854775807 := by unfold s64; omega
  have U := Lib.hid (fun W => refIntL (s64 x) W hs.1 hs.2)
  have hl := (sebL_len (s64 x) hs.1 hs.2).1
  have hz : wrap64 x = s64 x := by unfold s64 wrap64; omega
  generalize s64 x = z at *
  generalize sebL z = l at *
  go_enter Tryd.func79, Tryd.ntmps79
  go_wp2_with (go_at_call 102; go_must ((with_reducible refine (U.out _).mono ?_); intro e w1 h; obtain ⟨A, k, rfl, hl1, hb⟩ := h; have hs2 := str_lies' hl1 hl k; have HB := Lib.hid hb; clear hb hl1))
  go_ret
  exact ⟨rfl, HB.out⟩

section
variable {w W W' : World} {i : I} {A : Option Addr} {c : Nat}
theorem BoxI.on3 (h : BoxI w W i A c) {O O' : Obj} (hb : Below ((W.alloc O).alloc O').heap.size ((W.alloc O).alloc O') W') : BoxI w W' i A c := ((h.on (below_box W O)).on (below_box _ O')).on hb
theorem BoxI.two3 (h : BoxI w W i A c) (O O' : Obj) : BoxI w ((W.alloc O).alloc O') i A c := (h.on (below_box W O)).on (below_box _ O')
theorem BoxI.three (h : BoxI w W i A c) : BoxI w W i A c ∧ W.cell? ⟨w.heap.size, 1, none⟩ = some (.int .u64 i.a) ∧ W.cell? ⟨w.heap.size, 2, none⟩ = some (.int .u64 i.b) := ⟨h, h.c1, h.c2⟩
theorem held_num {K : Nat} {args : Array Value} {l : List UInt8} (hN : ∀ W, Calls Tryd.prog K args W (StrPost l W)) (h : BoxI w W i A c ∧ W.cell? ⟨w.heap.size, 1, none⟩ = some (.int .u64 i.a) ∧ W.cell? ⟨w.heap.size, 2, none⟩ = some (.int .u64 i.b)) :
    Calls Tryd.prog K args W fun e w' => e = .returned (.string (S l)) ∧ BoxI w w' i A c ∧ w'.cell? ⟨w.heap.size, 1, none⟩ = some (.int .u64 i.a) ∧ w'.cell? ⟨w.heap.size, 2, none⟩ = some (.int .u64 i.b) :=
  (hN W).mono fun _ _ ⟨h1, h2⟩ => ⟨h1, BoxI.three (h.1.on h2)⟩
end
theorem str_put {i : I} {l : List UInt8} {s : ByteArray} {w W : World} (hp : putL i = l) (hs : s = S l) (hb : Below w.heap.size w W) : StrPost (putL i) w (.returned (.string s)) W := ⟨by rw [hs, hp], hb⟩
set_option maxHeartbeats 3000000 in
theorem refPut_any (i : I) (A : Option Addr) (c : Nat) (w : World) (h : i.Ok) (hr : rightZ i = 0) (hl : Lies w w.heap.size A (cells32 i.l)) :
    Calls Tryd.prog 58 #[insV i A c] w (StrPost (putL i) w) := by
  have hn := i.n_le
  have HT := Lib.hid (immL_len h hr)
  obtain ⟨a0, a1, b0, b1, hl0⟩ := h
  have hwb : IntKind.i64.wrap (i.op.toNat : Int) = i.op.toNat := by rw [IntKind.wrap_i64]; have := i.op.toNat_lt; omega
  obtain ⟨hc0, _, h10, _, hz0⟩ := right_zero hr
  obtain ⟨hz1, hz2, hz3⟩ := nums_zero hz0 a0
  have HL0 := Lib.hid hl0
  have HB := Lib.hid (BoxI.start w i A c)
  have HL := Lib.hid hl
  obtain ⟨m, hm⟩ : ∃ m, m = immR i.n := ⟨_, rfl⟩
  obtain ⟨r, hr2⟩ : ∃ r, r = refR i.n := ⟨_, rfl⟩
  have him : (r.getD row0).imm = m := by rw [hr2, hm]; exact (imm_same hn hc0).2
  have HI : Hid (∀ W, Calls Tryd.prog 67 #[.int .i64 i.op.toNat] W (RefPost r W)) := fun W => by rw [hr2]; exact ref_any i.n W hn
  have HIM := Lib.hid (show putL i = [i.op] ++ immB m i by unfold putL immL; rw [hm]; rfl)
  rw [← hm] at hz1 hz2 hz3
  have HZ1 := Lib.hid hz1
  have HZ2 := Lib.hid hz2
  have HZ3 := Lib.hid hz3
  have NA := Lib.hid (fun W => num_any i.a W a0 a1)
  have NB := Lib.hid (fun W => num_any i.b W b0 b1)
  have NL := Lib.hid (fun W => num_any (i.l.length : Int) W (by omega) (by omega))
  have ka := lebL_len i.a (by omega)
  have kb := lebL_len i.b (by omega)
  have kl := lebL_len (i.l.length : Int) (by omega)
  have wl : IntKind.u64.wrap (i.l.length : Int) = i.l.length := by simp [IntKind.wrap, IntKind.bits, IntKind.signed]; omega
  obtain ⟨xa, hxa⟩ : ∃ x, x = lebL i.a := ⟨_, rfl⟩
  obtain ⟨xb, hxb⟩ : ∃ x, x = lebL i.b := ⟨_, rfl⟩
  obtain ⟨xl, hxl⟩ : ∃ x, x = lebL (i.l.length : Int) := ⟨_, rfl⟩
  rw [← hxa] at NA ka
  rw [← hxb] at NB kb
  rw [← hxl] at NL kl
  have sa := S_size xa
  have sb := S_size xb
  have sl := S_size xl
  obtain ⟨o, ho⟩ : ∃ o, o = [i.op] := ⟨_, rfl⟩
  have so : (S o).size = 1 := by rw [S_size, ho]; rfl
  have HC1 := Lib.hid (fun (W : World) (H : Nat) (hH : W.heap.size = H) => (by rw [ho]; exact conv1 hH : (convert 41 9 (.slice (some ⟨H, 0, none⟩) 1 1)).run Tryd.prog (W.alloc (.cells #[.int .u8 i.op.toNat] 5)) = .ok (.string (S o)) (W.alloc (.cells #[.int .u8 i.op.toNat] 5))))
  have HO := Lib.hid ho
  have HXA := Lib.hid hxa
  have HXB := Lib.hid hxb
  have HXL := Lib.hid hxl
  generalize (r.getD row0).op = r1 at *
  clear hl hr hc0 hz0 hr2 hm hz1 hz2 hz3 hl0 hxa hxb hxl ho
  have below2 : ∀ W : World, Below w.heap.size w W → ∀ O O', Below w.heap.size w ((W.alloc O).alloc O') := fun W hb O O' => (hb.alloc hb.size _).alloc (Nat.le_trans hb.size (below_box _ _).size) _
  have HB3f := Lib.hid below2
  clear below2
  by_cases m0 : m = 0
  · subst m0
    have HE := Lib.hid (show putL i = o ++ ([]) by rw [HIM.out, HO.out]; unfold immB; rw [if_pos rfl])
    go_enter Tryd.func58, Tryd.ntmps58
    go_wp2_with (first
      | (go_at_call 67; go_must ((with_reducible refine (HI.out _).mono ?_); rintro e w2 ⟨rfl, hb⟩; have HB2 := Lib.hid (HB.out.on hb); have hlt := HB2.out.lt; have c0 := HB2.out.c0; have c1 := HB2.out.c1; have c2 := HB2.out.c2; have c3 := HB2.out.c3; have hcv := fun O => HC1.out (w2.alloc O) (w2.heap.size + 1) (size_box _ _); clear hb)))
    go_ret
    exact str_put HE.out (by simp) (HB3f.out _ HB2.out.2 _ _)
  have d0 : ((m : Int) == 0) = false := by simp; omega
  by_cases m1 : m = 1
  · subst m1
    have HE := Lib.hid (show putL i = o ++ ([UInt8.ofNat i.a.toNat]) by rw [HIM.out, HO.out]; unfold immB; rw [if_neg (by omega), if_pos rfl])
    have ha := (HZ1.out rfl).1
    have hw : IntKind.u8.wrap i.a = i.a := by simp [IntKind.wrap, IntKind.bits, IntKind.signed]; omega
    obtain ⟨y, hy⟩ : ∃ y, y = [UInt8.ofNat i.a.toNat] := ⟨_, rfl⟩
    have sy : (S y).size = 1 := by rw [S_size, hy]; rfl
    have HC2 := Lib.hid (fun (W : World) (H : Nat) (hH : W.heap.size = H) => (by rw [hy]; exact conv2 (op := 0) hH i.a a0 ha : (convert 41 9 (.slice (some ⟨H, 0, none⟩) 1 1)).run Tryd.prog (W.alloc (.cells #[.int .u8 i.a] 5)) = .ok (.string (S y)) (W.alloc (.cells #[.int .u8 i.a] 5))))
    rw [← hy] at HE
    have q : (S o).size + (S y).size ≤ 9223372036854775807 := by omega
    clear hy
    go_enter Tryd.func58, Tryd.ntmps58
    go_wp2_with (go_at_call 67; go_must ((with_reducible refine (HI.out _).mono ?_); rintro e w2 ⟨rfl, hb⟩; have HB2 := Lib.hid (HB.out.on hb); have hlt := HB2.out.lt; have c0 := HB2.out.c0; have c1 := HB2.out.c1; have c2 := HB2.out.c2; have c3 := HB2.out.c3; have hcv := fun O => HC1.out (w2.alloc O) (w2.heap.size + 1) (size_box _ _); have hcv2 := fun O O' => HC2.out ((w2.alloc O).alloc O') (w2.heap.size + 1 + 1) (by rw [size_box, size_box]); clear hb))
    go_ret
    exact str_put HE.out (by rw [S_append]) ((HB3f.out _ HB2.out.2 _ _).alloc (by have := HB2.out.2.size; rw [size_box, size_box]; omega) _)
  have d1 : ((m : Int) == 1) = false := by simp; omega
  by_cases m3 : m = 3
  · subst m3
    have HE := Lib.hid (show putL i = o ++ (labL i.l ++ xa) by rw [HIM.out, HXA.out, HO.out]; unfold immB; rw [if_neg (by omega), if_neg (by omega), if_pos rfl])
    have q1 : (S o).size + (S xl).size ≤ 9223372036854775807 := by omega
    go_enter Tryd.func58, Tryd.ntmps58
    go_wp2_with (first
      | (go_at_call 67; go_must ((with_reducible refine (HI.out _).mono ?_); rintro e w2 ⟨rfl, hb⟩; have HB2 := Lib.hid (HB.out.on hb); have hlt := HB2.out.lt; have c0 := HB2.out.c0; have c1 := HB2.out.c1; have c2 := HB2.out.c2; have c3 := HB2.out.c3; have hcv := fun O => HC1.out (w2.alloc O) (w2.heap.size + 1) (size_box _ _); clear hb))
      | (go_at_call 78; go_must ((with_reducible refine (NL.out _).mono ?_); rintro e w3 ⟨rfl, hb⟩; have HB3 := Lib.hid (HB2.out.on3 hb); clear hb)))
    rw [S_append]
    obtain ⟨t0, ht0⟩ : ∃ t, t = o ++ xl := ⟨_, rfl⟩
    rw [← ht0]
    have HT0 := Lib.hid ht0
    clear ht0
    go_loopw [5, 6] (fun s j wr => ∃ k : Nat, k ≤ i.l.length ∧ j = .int .i64 k ∧ s = .string (S (t0 ++ labsL (i.l.take k))) ∧ BoxI w wr i A c) (fun _ j _ => i.l.length - (intOf j).toNat)
    case atStart => exact ⟨0, Nat.zero_le _, rfl, by simp [labsL], HB3.out⟩
    case round =>
      obtain ⟨k, hk, rfl, rfl, hbx⟩ := hrel
      have d3 := hbx.c3
      have d1 := hbx.c1
      have HBX := Lib.hid hbx
      have hlen : (t0 ++ labsL (i.l.take k)).length ≤ 200000 := by rw [List.length_append, HT0.out, List.length_append, HO.out]; have := labsL_take_len i.l HL0.out k h10; simp; omega
      by_cases hlt : k < i.l.length
      · obtain ⟨d, hd⟩ : ∃ d, i.l[k]? = some d := ⟨_, List.getElem?_eq_getElem hlt⟩
        obtain ⟨b, off, rfl, hbl, hcell⟩ := HL.out k _ (cells32_get hd)
        have hcell2 := (hbx.2.cell (p := ⟨b, off + k, none⟩) hbl).trans hcell
        have hdb := HL0.out d (List.mem_of_getElem? hd)
        have wd : IntKind.u64.wrap d = d := by simp [IntKind.wrap, IntKind.bits, IntKind.signed]; omega
        have ND := Lib.hid (fun W => num_any d W hdb.1 (by omega))
        have m2 := lebL_len d (by omega)
        have HS := Lib.hid (labsL_snoc hd)
        obtain ⟨y, hy⟩ : ∃ y, y = lebL d := ⟨_, rfl⟩
        rw [← hy] at ND m2 HS
        obtain ⟨t, ht⟩ : ∃ t, t = t0 ++ labsL (i.l.take k) := ⟨_, rfl⟩
        rw [← ht] at hlen ⊢
        have HTT := Lib.hid ht
        have st := S_size t
        have sy := S_size y
        have q : (S t).size + (S y).size ≤ 9223372036854775807 := by omega
        clear hcell hd hy ht hbx
        go_wp2_with (go_at_call 78; go_must ((with_reducible refine (ND.out _).mono ?_); rintro e w4 ⟨rfl, hb⟩; have HB4 := Lib.hid (HBX.out.on hb); clear hb))
        go_roundw
        case rel => exact ⟨k + 1, by omega, by go_num, by rw [S_append, HS.out, ← List.append_assoc, ← HTT.out], HB4.out⟩
        case measure => simp [intOf]; omega
      · obtain rfl : k = i.l.length := by omega
        obtain ⟨t, ht⟩ : ∃ t, t = t0 ++ labsL (i.l.take i.l.length) := ⟨_, rfl⟩
        rw [← ht] at hlen ⊢
        have HTT := Lib.hid (show t = o ++ labL i.l by rw [ht, HT0.out, List.take_of_length_le (Nat.le_refl _)]; unfold labL; rw [List.append_assoc, HXL.out])
        have st := S_size t
        have q : (S t).size + (S xa).size ≤ 9223372036854775807 := by omega
        clear ht hbx
        go_wp2_with (go_at_call 78; go_must ((with_reducible refine (NA.out _).mono ?_); rintro e w4 ⟨rfl, hb⟩; have HB4 := Lib.hid (HBX.out.on hb); clear hb))
        go_ret
        exact str_put HE.out (by rw [S_append, HTT.out, List.append_assoc]) HB4.out.2
  have d3 : ((m : Int) == 3) = false := by simp; omega
  by_cases m5 : m = 5
  · subst m5
    have HE := Lib.hid (show putL i = o ++ (xa ++ [0]) by rw [HIM.out, HXA.out, HO.out]; unfold immB; rw [if_neg (by omega), if_neg (by omega), if_neg (by omega), if_pos rfl])
    have q1 : (S o).size + (S xa).size ≤ 9223372036854775807 := by omega
    have q2 : (S o).size + (S xa).size + 1 ≤ 9223372036854775807 := by omega
    go_enter Tryd.func58, Tryd.ntmps58
    go_wp2_with (first
      | (go_at_call 67; go_must ((with_reducible refine (HI.out _).mono ?_); rintro e w2 ⟨rfl, hb⟩; have HB2 := Lib.hid (HB.out.on hb); have hlt := HB2.out.lt; have c0 := HB2.out.c0; have c1 := HB2.out.c1; have c2 := HB2.out.c2; have c3 := HB2.out.c3; have hcv := fun O => HC1.out (w2.alloc O) (w2.heap.size + 1) (size_box _ _); clear hb))
      | (go_at_call 78; go_must ((with_reducible refine (NA.out _).mono ?_); rintro e w3 ⟨rfl, hb⟩; have HB3 := Lib.hid hb; clear hb)))
    go_ret
    exact str_put HE.out (by rw [show ({ data := #[0] } : ByteArray) = S [0] from rfl, S_append, S_append, List.append_assoc]) ((HB3f.out _ HB2.out.2 _ _).trans (HB3.out.mono (HB3f.out _ HB2.out.2 _ _).size))
  have d5 : ((m : Int) == 5) = false := by simp; omega
  by_cases m8 : m = 8
  · subst m8
    have HE := Lib.hid (show putL i = o ++ (xa ++ xb) by rw [HIM.out, HXA.out, HXB.out, HO.out]; unfold immB; rw [if_neg (by omega), if_neg (by omega), if_neg (by omega), if_neg (by omega), if_pos rfl])
    have q1 : (S o).size + (S xa).size ≤ 9223372036854775807 := by omega
    have q2 : (S o).size + (S xa).size + (S xb).size ≤ 9223372036854775807 := by omega
    have q3 : ¬ 9223372036854775807 < (S o).size + (S xa).size := by omega
    have q4 : ¬ 9223372036854775807 < (S o).size + (S xa).size + (S xb).size := by omega
    go_enter Tryd.func58, Tryd.ntmps58
    go_wp2_with (first
      | (go_at_call 67; go_must ((with_reducible refine (HI.out _).mono ?_); rintro e w2 ⟨rfl, hb⟩; have HB2 := Lib.hid (HB.out.on hb); have hlt := HB2.out.lt; have c0 := HB2.out.c0; have c1 := HB2.out.c1; have c2 := HB2.out.c2; have c3 := HB2.out.c3; have hcv := fun O => HC1.out (w2.alloc O) (w2.heap.size + 1) (size_box _ _); clear hb)))
    clear q1 q2 so sa sb sl
    have HS0 := Lib.hid (HB2.out.two3)
    go_region_held3 (fun W => BoxI w W i A c ∧ W.cell? ⟨w.heap.size, 1, none⟩ = some (.int .u64 i.a) ∧ W.cell? ⟨w.heap.size, 2, none⟩ = some (.int .u64 i.b))
      (first | assumption | exact BoxI.three (HS0.out _ _) | exact BoxI.three ((HS0.out _ _).drewN 1))
      (first | (go_at_call 78; first | ((with_reducible refine (held_num NA.out ‹_›).mono ?_); rintro e w3 ⟨rfl, hk3⟩) | ((with_reducible refine (held_num NB.out ‹_›).mono ?_); rintro e w4 ⟨rfl, hk4⟩)))
    go_wp2
    go_ret
    exact str_put HE.out (by rw [S_append, S_append, List.append_assoc]) (BoxI.bel hk4.1)
  have d8 : ((m : Int) == 8) = false := by simp; omega
  by_cases m9 : m = 9
  · subst m9
    have HE := Lib.hid (show putL i = o ++ ([0]) by rw [HIM.out, HO.out]; unfold immB; rw [if_neg (by omega), if_neg (by omega), if_neg (by omega), if_neg (by omega), if_neg (by omega), if_pos rfl])
    have q1 : (S o).size + 1 ≤ 9223372036854775807 := by omega
    go_enter Tryd.func58, Tryd.ntmps58
    go_wp2_with (first
      | (go_at_call 67; go_must ((with_reducible refine (HI.out _).mono ?_); rintro e w2 ⟨rfl, hb⟩; have HB2 := Lib.hid (HB.out.on hb); have hlt := HB2.out.lt; have c0 := HB2.out.c0; have c1 := HB2.out.c1; have c2 := HB2.out.c2; have c3 := HB2.out.c3; have hcv := fun O => HC1.out (w2.alloc O) (w2.heap.size + 1) (size_box _ _); clear hb)))
    go_ret
    exact str_put HE.out (by rw [show ({ data := #[0] } : ByteArray) = S [0] from rfl, S_append]) (HB3f.out _ HB2.out.2 _ _)
  have d9 : ((m : Int) == 9) = false := by simp; omega
  by_cases m10 : m = 10
  · subst m10
    have HE := Lib.hid (show putL i = o ++ (sebL (s32 i.a)) by rw [HIM.out, HO.out]; unfold immB; rw [if_neg (by omega), if_neg (by omega), if_neg (by omega), if_neg (by omega), if_neg (by omega), if_neg (by omega), if_pos rfl])
    have hs : -9223372036854775808 ≤ s32 i.a ∧ s32 i.a ≤ 9223372036854775807 := by unfold s32; omega
    have kz := sebL_len (s32 i.a) hs.1 hs.2
    have NZ := Lib.hid (fun W => signed32_any i.a W a0 a1)
    generalize sebL (s32 i.a) = z at *
    have sz := S_size z
    have q1 : (S o).size + (S z).size ≤ 9223372036854775807 := by omega
    go_enter Tryd.func58, Tryd.ntmps58
    go_wp2_with (first
      | (go_at_call 67; go_must ((with_reducible refine (HI.out _).mono ?_); rintro e w2 ⟨rfl, hb⟩; have HB2 := Lib.hid (HB.out.on hb); have hlt := HB2.out.lt; have c0 := HB2.out.c0; have c1 := HB2.out.c1; have c2 := HB2.out.c2; have c3 := HB2.out.c3; have hcv := fun O => HC1.out (w2.alloc O) (w2.heap.size + 1) (size_box _ _); clear hb))
      | (go_at_call 79; go_must ((with_reducible refine (NZ.out _).mono ?_); rintro e w3 ⟨rfl, hb⟩; have HB3 := Lib.hid hb; clear hb)))
    go_ret
    exact str_put HE.out (by rw [S_append]) ((HB3f.out _ HB2.out.2 _ _).trans (HB3.out.mono (HB3f.out _ HB2.out.2 _ _).size))
  have d10 : ((m : Int) == 10) = false := by simp; omega
  by_cases m11 : m = 11
  · subst m11
    have HE := Lib.hid (show putL i = o ++ (sebL (s64 i.a)) by rw [HIM.out, HO.out]; unfold immB; rw [if_neg (by omega), if_neg (by omega), if_neg (by omega), if_neg (by omega), if_neg (by omega), if_neg (by omega), if_neg (by omega), if_pos rfl])
    have hs : -9223372036854775808 ≤ s64 i.a ∧ s64 i.a ≤ 9223372036854775807 := by unfold s64; omega
    have kz := sebL_len (s64 i.a) hs.1 hs.2
    have NZ := Lib.hid (fun W => signed64_any i.a W a0 a1)
    generalize sebL (s64 i.a) = z at *
    have sz := S_size z
    have q1 : (S o).size + (S z).size ≤ 9223372036854775807 := by omega
    go_enter Tryd.func58, Tryd.ntmps58
    go_wp2_with (first
      | (go_at_call 67; go_must ((with_reducible refine (HI.out _).mono ?_); rintro e w2 ⟨rfl, hb⟩; have HB2 := Lib.hid (HB.out.on hb); have hlt := HB2.out.lt; have c0 := HB2.out.c0; have c1 := HB2.out.c1; have c2 := HB2.out.c2; have c3 := HB2.out.c3; have hcv := fun O => HC1.out (w2.alloc O) (w2.heap.size + 1) (size_box _ _); clear hb))
      | (go_at_call 79; go_must ((with_reducible refine (NZ.out _).mono ?_); rintro e w3 ⟨rfl, hb⟩; have HB3 := Lib.hid hb; clear hb)))
    go_ret
    exact str_put HE.out (by rw [S_append]) ((HB3f.out _ HB2.out.2 _ _).trans (HB3.out.mono (HB3f.out _ HB2.out.2 _ _).size))
  have d11 : ((m : Int) == 11) = false := by simp; omega
  have HE := Lib.hid (show putL i = o ++ xa by rw [HIM.out, HXA.out, HO.out]; unfold immB; rw [if_neg m0, if_neg m1, if_neg m3, if_neg m5, if_neg m8, if_neg m9, if_neg m10, if_neg m11])
  have q1 : (S o).size + (S xa).size ≤ 9223372036854775807 := by omega
  clear HIM
  go_enter Tryd.func58, Tryd.ntmps58
  go_wp2_with (first
    | (go_at_call 67; go_must ((with_reducible refine (HI.out _).mono ?_); rintro e w2 ⟨rfl, hb⟩; have HB2 := Lib.hid (HB.out.on hb); have hlt := HB2.out.lt; have c0 := HB2.out.c0; have c1 := HB2.out.c1; have c2 := HB2.out.c2; have c3 := HB2.out.c3; have hcv := fun O => HC1.out (w2.alloc O) (w2.heap.size + 1) (size_box _ _); clear hb))
    | (go_at_call 78; go_must ((with_reducible refine (NA.out _).mono ?_); rintro e w3 ⟨rfl, hb⟩; have HB3 := Lib.hid hb; clear hb)))
  go_ret
  exact str_put HE.out (by rw [S_append]) ((HB3f.out _ HB2.out.2 _ _).trans (HB3.out.mono (HB3f.out _ HB2.out.2 _ _).size))
end Go.Proofs.YtebgmfjgapmpfabDoor

/- consts.Put, Global; the reference's Put; awake. -/
namespace Go.Proofs.YtebgmfjgapmpfabDoor
open Go.RowKit
set_option linter.unusedVariables false
set_option maxRecDepth 100000

/-- What consts.Put hands back. -/
def CPutPost (i : I) (w : World) (e : Ending) (w' : World) : Prop :=
  ∃ v, e = .returned (.tuple #[v, .int .i64 (crightZ i)]) ∧ Row w' w.heap.size v (if crightZ i = 0 then putL i ++ [11] else []) ∧ Below w.heap.size w w'
theorem cput_no {i : I} {z : Int} {w w' : World} (h : z ≠ 0) (hz : z = crightZ i) (hb : Below w.heap.size w w') : CPutPost i w (.returned (.tuple #[.slice none 0 0, .int .i64 z])) w' := by
  subst hz
  exact ⟨_, rfl, by rw [if_neg h]; exact Row.nil _ _, hb⟩
theorem cput_yes {i : I} {x : List UInt8} {v : Value} {w w' : World} (h : crightZ i = 0) (hx : x = putL i) (hr : Row w' w.heap.size v (x ++ [11])) (hb : Below w.heap.size w w') : CPutPost i w (.returned (.tuple #[v, .int .i64 0])) w' :=
  ⟨v, by rw [h], by rw [if_pos h, ← hx]; exact hr, hb⟩
set_option maxHeartbeats 1000000 in
theorem cput_any (i : I) (A : Option Addr) (c : Nat) (w : World) (h : i.Ok) (hT : Tabs w) (hl : Lies w w.heap.size A (cells32 i.l)) (hl63 : (i.l.length : Int) ≤ 9223372036854775807) :
    Calls Tryd.prog 44 #[insV i A c] w (CPutPost i w) := by
  have HB := Lib.hid (BoxI.start w i A c)
  have HR := Lib.hid (cright_any i A c (w.alloc (.cells (insC i A c) 37)) h (hT.below HB.out.2) hl63)
  by_cases h0 : crightZ i = 0
  · rw [h0] at HR
    have hr := (cr_zero h0).1
    have hlen := immL_len h hr
    obtain ⟨x, hx⟩ : ∃ x, x = putL i := ⟨_, rfl⟩
    have hxl : x.length ≤ 200001 := by rw [hx]; show (i.op :: immL i).length ≤ _; simp; omega
    have HP := Lib.hid (fun W (hb : Below w.heap.size w W) => show Calls Tryd.prog 62 #[insV i A c] W fun e w' => ∃ v, e = .returned (.tuple #[v, .int .i64 0]) ∧ Row w' W.heap.size v x ∧ Below W.heap.size W w' from
      (put_any i A c W h (hT.below hb) ((hl.below hb (Nat.le_refl _)).more hb.size) hl63).mono fun e w' hq => by
        obtain ⟨v, h1, h2, h3⟩ := hq
        rw [hr] at h1
        rw [if_pos hr, ← hx] at h2
        exact ⟨v, h1, h2, h3⟩)
    have HX := Lib.hid hx
    have H0 := Lib.hid h0
    clear h hT hl hl63 h0 hr hlen hx
    go_enter Tryd.func44, Tryd.ntmps44
    go_wp2_with (first
      | (go_at_call 26; go_must ((with_reducible refine HR.out.mono ?_); rintro e w1 ⟨rfl, hb⟩; have HB1 := Lib.hid (HB.out.on hb); have c0 := HB1.out.c0; have c1 := HB1.out.c1; have c2 := HB1.out.c2; have c3 := HB1.out.c3; clear hb))
      | (go_at_call 62; go_must ((with_reducible refine (HP.out _ HB1.out.bel).mono ?_); intro e w2 hq; obtain ⟨v, rfl, hr, hb⟩ := hq; have HR2 := Lib.hid hr; have HB2 := Lib.hid (HB1.out.bel.trans (hb.mono HB1.out.bel.size)); have hz2 := hb.size; clear hr hb))
      | (at_builtin; (refine row_new rfl _ _ rfl w1.heap.size _ x rfl (HR2.out.alloc _) w2.heap.size 1 [11] rfl rfl (heap_alloc_new w2 _) (by omega) (by simp; omega) (by simp; omega) ?_; intro v3 w3 hr3 hb3; have HR3 := Lib.hid hr3; have HB3 := Lib.hid hb3; clear hr3 hb3)))
    go_ret2
    exact cput_yes H0.out HX.out (HR3.out.mono HB1.out.bel.size) ((HB2.out.alloc HB2.out.size _).trans (HB3.out.mono HB1.out.bel.size))
  · have HX := Lib.hid h0
    obtain ⟨z, hz⟩ : ∃ z, z = crightZ i := ⟨_, rfl⟩
    rw [← hz] at HR HX
    have dz : (z != 0) = true := by rw [hz]; simpa using h0
    have HZ := Lib.hid hz
    clear h hT hl hl63 h0 hz
    go_enter Tryd.func44, Tryd.ntmps44
    go_wp2_with (go_at_call 26; go_must ((with_reducible refine HR.out.mono ?_); rintro e w1 ⟨rfl, hb1⟩; have HB1 := Lib.hid (HB.out.on hb1); clear hb1))
    go_ret2
    exact cput_no HX.out HZ.out HB1.out.bel

theorem rcput_any (i : I) (A : Option Addr) (c : Nat) (w : World) (h : i.Ok) (hr : rightZ i = 0) (hl : Lies w w.heap.size A (cells32 i.l)) :
    Calls Tryd.prog 33 #[insV i A c] w (StrPost (putL i ++ [11]) w) := by
  have HB := Lib.hid (BoxI.start w i A c)
  have hlen := immL_len h hr
  have HP := Lib.hid (refPut_any i A c (w.alloc (.cells (insC i A c) 37)) h hr ((hl.below HB.out.2 (Nat.le_refl _)).more HB.out.2.size))
  obtain ⟨x, hx⟩ : ∃ x, x = putL i := ⟨_, rfl⟩
  have hxl : (S x).size + (⟨#[11]⟩ : ByteArray).size ≤ 9223372036854775807 := by
    rw [S_size, hx]
    show (i.op :: immL i).length + 1 ≤ _
    simp
    omega
  have hxl2 : (S x).size + 1 ≤ 9223372036854775807 := hxl
  have HS := Lib.hid (S_append x [11])
  rw [← hx] at HP ⊢
  clear h hr hl hlen hx
  go_enter Tryd.func33, Tryd.ntmps33
  go_wp2_with (go_at_call 58; go_must ((with_reducible refine HP.out.mono ?_); rintro e w1 ⟨rfl, hb⟩; have HB1 := Lib.hid (HB.out.on hb); clear hb))
  go_ret
  exact ⟨by rw [← HS.out]; rfl, HB1.out.bel⟩

/-- Global's instruction. -/
abbrev gIns (n : Int) : I := ⟨35, n, 0, []⟩
/-- The page's example. -/
def cEg : I := ⟨65, 5, 0, []⟩
theorem cEg_ok : cEg.Ok := ⟨by decide, by decide, by decide, by decide, fun c h => by cases h⟩
theorem cEg_imm : immR cEg.n = 10 := by decide +kernel
theorem cEg_right : rightZ cEg = 0 := by decide +kernel
theorem cEg_zero : crightZ cEg = 0 := cr_yes cEg_right (by decide)
theorem cEg_put : putL cEg = [65, 5] := by
  have hm : sebN 5 = 1 := (sebN_least 5 (by omega) (by omega)).unique ⟨Nat.le_refl _, by unfold fitS; decide, fun m a b => by omega⟩
  have hs : s32 cEg.a = 5 := by decide +kernel
  unfold putL immL immB
  rw [cEg_imm, hs]
  show [65] ++ sebL 5 = _
  unfold sebL
  rw [hm]
  rfl
end Go.Proofs.YtebgmfjgapmpfabDoor

/- Constant expressions have no labels; their bytes. -/
namespace Go.Proofs.YtebgmfjgapmpfabDoor
open Go.RowKit
set_option linter.unusedVariables false
set_option maxRecDepth 100000

theorem isC_imm {n : Nat} (h : IsC n) : immR n ≠ 3 := by rcases h with rfl | rfl | rfl <;> decide +kernel
/-- A constant expression has no labels. -/
theorem cz_nil {i : I} (h : crightZ i = 0) : i.l = [] := by
  obtain ⟨h1, h2⟩ := cr_zero h
  unfold rightZ at h1
  split at h1
  · omega
  · split at h1
    · omega
    · rename_i h3
      have h4 := isC_imm h2
      rcases Nat.eq_zero_or_pos i.l.length with h5 | h5
      · exact List.eq_nil_of_length_eq_zero h5
      · exact absurd ⟨h5, h4⟩ h3
/-- consts.Put, whatever the labels lie as: there are none where they would be read. -/
theorem cput2_any (i : I) (A : Option Addr) (c : Nat) (w : World) (h : i.Ok) (hT : Tabs w) (h0 : crightZ i = 0) :
    Calls Tryd.prog 44 #[insV i A c] w (CPutPost i w) :=
  cput_any i A c w h hT (by rw [cz_nil h0]; intro j v hv; simp [cells32] at hv) (by rw [cz_nil h0]; simp)
/-- Its bytes. -/
noncomputable def cputL (i : I) : List UInt8 := putL i ++ [11]
theorem cputL_len {i : I} (h : i.Ok) (h0 : crightZ i = 0) : 1 ≤ (cputL i).length ∧ (cputL i).length ≤ 32 := by
  have hl := cz_nil h0
  obtain ⟨a0, a1, b0, b1, _⟩ := h
  have k1 := lebL_len i.a (by omega)
  have k2 := lebL_len i.b (by omega)
  have k3 := lebL_len ((0 : Nat) : Int) (by omega)
  have k5 := sebL_len (s32 i.a) (by unfold s32; omega) (by unfold s32; omega)
  have k6 := sebL_len (s64 i.a) (by unfold s64; omega) (by unfold s64; omega)
  unfold cputL putL immL immB labL labsL
  rw [hl]
  repeat' split
  all_goals (simp only [List.length_append, List.length_cons, List.length_nil, List.flatMap_nil])
  all_goals omega
theorem readR_nil {l : List UInt8} {k : Nat} {i : I} {k' : Nat} (h : readR l k = .ok i k') : i.l = [] := by
  unfold readR at h
  cases hr : getR l k with
  | err c a => rw [hr, Res.bind_err] at h; cases h
  | ok j p =>
    rw [hr, Res.bind_ok] at h
    by_cases hz : crightZ j = 0
    · rw [if_pos hz] at h
      cases hb : byteR l p with
      | err c a => rw [hb, Res.bind_err] at h; cases h
      | ok d p2 =>
        rw [hb, Res.bind_ok] at h
        by_cases hd : d = 11
        · rw [if_pos hd] at h
          injection h with h1 h2
          subst h1
          exact cz_nil hz
        · rw [if_neg hd] at h; cases h
    · rw [if_neg hz] at h; cases h
end Go.Proofs.YtebgmfjgapmpfabDoor

/- Element segments as plain data; elems.Right; creelref13.Count, Right. -/
namespace Go.Proofs.YtebgmfjgapmpfabDoor
open Go.RowKit
set_option linter.unusedVariables false
set_option maxRecDepth 100000

/-- An element segment: its offset, its functions. -/
structure El where
  i : I
  fs : List Int
/-- Its cells, its labels at A, its functions at F. -/
abbrev elC (x : El) (A : Option Addr) (c : Nat) (F : Option Addr) (f : Nat) : Array Value := #[.int .u8 x.i.op.toNat, .int .u64 x.i.a, .int .u64 x.i.b, .slice A x.i.l.length c, .slice F x.fs.length f]
abbrev elV (x : El) (A : Option Addr) (c : Nat) (F : Option Addr) (f : Nat) : Value := .agg (elC x A c F f)
/-- The zero value's cells. -/
abbrev elZ : Array Value := #[.int .u8 0, .int .u64 0, .int .u64 0, .slice none 0 0, .slice none 0 0]
abbrev FiveE (W : World) (b : Nat) (x : El) (A : Option Addr) (c : Nat) (F : Option Addr) (f : Nat) : Prop :=
  W.cell? ⟨b, 0, none⟩ = some (.int .u8 x.i.op.toNat) ∧ W.cell? ⟨b, 1, none⟩ = some (.int .u64 x.i.a) ∧ W.cell? ⟨b, 2, none⟩ = some (.int .u64 x.i.b) ∧ W.cell? ⟨b, 3, none⟩ = some (.slice A x.i.l.length c) ∧ W.cell? ⟨b, 4, none⟩ = some (.slice F x.fs.length f)
theorem Whole.el {w : World} {b : Nat} {t : TypeId} {x : El} {A : Option Addr} {c : Nat} {F : Option Addr} {f : Nat} (h : Whole w b t (elC x A c F f)) : FiveE w b x A c F f := ⟨h.cell 0, h.cell 1, h.cell 2, h.cell 3, h.cell 4⟩
theorem put5 {w : World} {b : Nat} {t : TypeId} {x0 x1 x2 x3 x4 u0 u1 u2 u3 u4 : Value} (hb : Whole w b t #[x0, x1, x2, x3, x4]) :
    Whole (((((w.setCell ⟨b, 0, none⟩ u0).setCell ⟨b, 1, none⟩ u1).setCell ⟨b, 2, none⟩ u2).setCell ⟨b, 3, none⟩ u3).setCell ⟨b, 4, none⟩ u4) b t #[u0, u1, u2, u3, u4] ∧
    w.grownBy (((((w.setCell ⟨b, 0, none⟩ u0).setCell ⟨b, 1, none⟩ u1).setCell ⟨b, 2, none⟩ u2).setCell ⟨b, 3, none⟩ u3).setCell ⟨b, 4, none⟩ u4) (some b) :=
  ⟨(((((hb.put 0 u0).put 1 u1).put 2 u2).put 3 u3).put 4 u4),
   gb_put (p := ⟨b, 4, none⟩) (gb_put (p := ⟨b, 3, none⟩) (gb_put (p := ⟨b, 2, none⟩) (gb_put (p := ⟨b, 1, none⟩) (gb_put (p := ⟨b, 0, none⟩) (gb_refl w _) (.inl rfl) u0) (.inl rfl) u1) (.inl rfl) u2) (.inl rfl) u3) (.inl rfl) u4⟩
section
variable {B W W' : World} {b : Nat} {x : El} {A : Option Addr} {c : Nat} {F : Option Addr} {f : Nat}
end
end Go.Proofs.YtebgmfjgapmpfabDoor

/- instr.Get of any bytes. (By gen/genGetA.py.) -/
namespace Go.Proofs.YtebgmfjgapmpfabDoor
open Go.RowKit
set_option linter.unusedVariables false
set_option maxRecDepth 100000

/-- What Get leaves behind. -/
def GetsR (p : Nat) (l : List UInt8) (r : Res I) (w : World) (e : Ending) (w' : World) : Prop := match r with
  | .ok i k => Gets p l i k w e w'
  | .err c a => e = .panicked (stopP c a) ∧ w.grownBy w' (some p)
set_option maxHeartbeats 4000000 in
theorem getA_any {w : World} {p : Nat} {l : List UInt8} {k : Nat} (hs : Sc w p l k) (hT : TbP p w) :
    Calls Tryd.prog 75 #[.pointer (some ⟨p, 0, none⟩)] w (GetsR p l (getR l k) w) := by
  have hlt := hs.lt
  have HZ : Hid (Sc (w.alloc (.cells #[.int .u8 0, .int .u64 0, .int .u64 0, .slice none 0 0] 37)) p l k ∧ TbP p (w.alloc (.cells #[.int .u8 0, .int .u64 0, .int .u64 0, .slice none 0 0] 37))) := ⟨hs.alloc _, hT.below (below_box w _) (by omega)⟩
  have hO := getOp_any HZ.out.1 HZ.out.2
  unfold getR
  cases hop : opR l k with
  | err ec ea =>
    rw [hop] at hO
    rw [Res.bind_err]
    show Calls _ _ _ _ (fun e w' => e = .panicked (stopP ec ea) ∧ w.grownBy w' (some p))
    have HOP := Lib.hid hO
    clear hs hT hO hop HZ
    go_enter Tryd.func75, Tryd.ntmps75
    go_wp2_with (go_at_call 95; go_must ((with_reducible refine HOP.out.mono ?_); rintro e w1 ⟨rfl, hg⟩; have HG := Lib.hid hg; clear hg))
    exact ⟨rfl, rfl, gb_trans (gb_alloc (gb_refl w _) _) HG.out⟩
  | ok c k1 =>
    rw [hop] at hO
    rw [Res.bind_ok]
    obtain ⟨hk1, hc0⟩ := opR_ok hop
    have hn : c.toNat ≤ 255 := by have := c.toNat_lt; omega
    obtain ⟨m, hm⟩ : ∃ m, m = immR c.toNat := ⟨_, rfl⟩
    obtain ⟨inf, hinf⟩ : ∃ inf, inf = infR c.toNat := ⟨_, rfl⟩
    have him : inf.imm = m := by rw [hinf, hm]; exact (imm_same hn hc0).1
    have HI : Hid (∀ W, Tabs W → Calls Tryd.prog 72 #[.int .u8 c.toNat] W fun e w' => e = .returned (infV inf) ∧ Below W.heap.size W w') := fun W hW => by rw [hinf]; exact of_any c.toNat W hW hn
    have hfield := fun z wx => field_imm (S inf.name) (S inf.ps) (S inf.rs) z inf.free wx
    show Calls _ _ _ _ (GetsR p l (bodyR (immR c.toNat) c l k1) w)
    rw [← hm]
    have HOP := Lib.hid hO
    have HWM := Lib.hid (Whole.made w 37 #[.int .u8 0, .int .u64 0, .int .u64 0, .slice none 0 0])
    have hstart : ∀ w1, Sc w1 p l k1 → (w.alloc (.cells #[.int .u8 0, .int .u64 0, .int .u64 0, .slice none 0 0] 37)).grownBy w1 (some p) → GSt w p l w1.heap.size none [] k1 (.int .u8 c.toNat) (.int .u64 0) (.int .u64 0) (.slice none 0 0) (w1.alloc (.cells #[.int .u8 c.toNat, .int .u64 0, .int .u64 0, .slice none 0 0] 37)) := fun w1 hs1 hg1 => by
      have hz := hg1.size
      rw [size_box] at hz
      exact ⟨(HWM.out.grown hg1 (by simp only [ne_eq, Option.some.injEq]; omega)).alloc _, Whole.made _ _ _, hs1.alloc _, gb_alloc (gb_trans (gb_alloc (gb_refl w _) _) hg1) _, hlt, by omega, (HZ.out.2.self hg1).below (below_box w1 _) (by omega), (fun j v hv => by simp [cells32] at hv), (fun a e => by cases e), .inl ⟨rfl, rfl⟩⟩
    have HST := Lib.hid hstart
    clear hs hT hO hop hc0 hinf hm hstart
    by_cases m0 : m = 0
    · subst m0
      rw [show bodyR 0 c l k1 = .ok ⟨c, 0, 0, []⟩ k1 from by unfold bodyR; rw [if_pos rfl]]
      go_enter Tryd.func75, Tryd.ntmps75
      go_wp2_with (first
        | (go_at_call 95; go_must ((with_reducible refine HOP.out.mono ?_); rintro e w1 ⟨rfl, hs, hg⟩; have HG1 := Lib.hid (HST.out w1 hs hg); have hh := HG1.out.h2; have n1 : ¬ w1.heap.size = w.heap.size := (by omega); have n2 : ¬ w.heap.size = w1.heap.size := (by omega); clear hs hg hh))
        | (go_at_call 72; go_must ((with_reducible refine (HI.out _ HG1.out.tb.tabs).mono ?_); rintro e w2 ⟨rfl, hb⟩; unfold infV; have HG2 := Lib.hid (HG1.out.below hb); have c0 := HG2.out.box.cell 0; have c1 := HG2.out.box.cell 1; have c2 := HG2.out.box.cell 2; have c3 := HG2.out.box.cell 3; have f1 := HG2.out.box.frozen 1; have f2 := HG2.out.box.frozen 2; have f3 := HG2.out.box.frozen 3; have r0 := HG2.out.res.cell 0; have r1 := HG2.out.res.cell 1; have r2 := HG2.out.res.cell 2; have r3 := HG2.out.res.cell 3; have z0 := HG2.out.res.frozen 0; have z1 := HG2.out.res.frozen 1; have z2 := HG2.out.res.frozen 2; have z3 := HG2.out.res.frozen 3; simp only [List.getElem?_toArray, List.getElem?_cons_zero, List.getElem?_cons_succ] at c0 c1 c2 c3 r0 r1 r2 r3; clear hb)))
      obtain ⟨q, hf⟩ := GSt.fin (HG2.out) (.int .u8 c.toNat) (.int .u64 0) (.int .u64 0) (.slice none 0 0) _ rfl
      have q0 := q.cell 0
      have q1 := q.cell 1
      have q2 := q.cell 2
      have q3 := q.cell 3
      simp only [List.getElem?_toArray, List.getElem?_cons_zero, List.getElem?_cons_succ] at q0 q1 q2 q3
      exact bodyPost_ret (v := insV (⟨c, 0, 0, []⟩ : I) none 0) (by simp [results, Tryd.results75, go_sem, q0, q1, q2, q3]) rfl (gets_end (i := (⟨c, 0, 0, []⟩ : I)) (HG2.out) hf rfl rfl)
    have d0 : ((m : Int) == 0) = false := by simp; omega
    by_cases m1 : m = 1
    · subst m1
      rw [show bodyR 1 c l k1 = (blockR l k1).bind fun a k1 => .ok ⟨c, a, 0, []⟩ k1 from by unfold bodyR; rw [if_neg (by omega), if_pos rfl]]
      have hX0 := fun W (h : Sc W p l k1) => getBlock_any h
      cases hr0 : blockR l k1 with
      | err ec ea =>
        rw [Res.bind_err]
        show Calls _ _ _ _ (fun e w' => e = .panicked (stopP ec ea) ∧ w.grownBy w' (some p))
        have HX0 := Lib.hid (fun W (h : Sc W p l k1) => show Calls Tryd.prog 96 #[.pointer (some ⟨p, 0, none⟩)] W (Did enc64 p l W (.err ec ea)) from by have := hX0 W h; rw [hr0] at this; exact this)
        clear hX0 hr0
        go_enter Tryd.func75, Tryd.ntmps75
        go_wp2_with (first
          | (go_at_call 95; go_must ((with_reducible refine HOP.out.mono ?_); rintro e w1 ⟨rfl, hs, hg⟩; have HG1 := Lib.hid (HST.out w1 hs hg); have hh := HG1.out.h2; have n1 : ¬ w1.heap.size = w.heap.size := (by omega); have n2 : ¬ w.heap.size = w1.heap.size := (by omega); clear hs hg hh))
          | (go_at_call 72; go_must ((with_reducible refine (HI.out _ HG1.out.tb.tabs).mono ?_); rintro e w2 ⟨rfl, hb⟩; unfold infV; have HG2 := Lib.hid (HG1.out.below hb); have c0 := HG2.out.box.cell 0; have c1 := HG2.out.box.cell 1; have c2 := HG2.out.box.cell 2; have c3 := HG2.out.box.cell 3; have f1 := HG2.out.box.frozen 1; have f2 := HG2.out.box.frozen 2; have f3 := HG2.out.box.frozen 3; have r0 := HG2.out.res.cell 0; have r1 := HG2.out.res.cell 1; have r2 := HG2.out.res.cell 2; have r3 := HG2.out.res.cell 3; have z0 := HG2.out.res.frozen 0; have z1 := HG2.out.res.frozen 1; have z2 := HG2.out.res.frozen 2; have z3 := HG2.out.res.frozen 3; simp only [List.getElem?_toArray, List.getElem?_cons_zero, List.getElem?_cons_succ] at c0 c1 c2 c3 r0 r1 r2 r3; clear hb))
          | (go_at_call 96; go_must ((with_reducible refine (HX0.out _ (HG2.out).sc).mono ?_); rintro e w3 ⟨rfl, hg⟩; have HGE := Lib.hid hg; clear hg)))
        exact ⟨rfl, rfl, gb_trans (HG2.out).gr HGE.out⟩
      | ok v0 k2 =>
        rw [Res.bind_ok]
        have HX0 := Lib.hid (fun W (h : Sc W p l k1) => show Calls Tryd.prog 96 #[.pointer (some ⟨p, 0, none⟩)] W (Did enc64 p l W (.ok v0 k2)) from by have := hX0 W h; rw [hr0] at this; exact this)
        clear hX0 hr0
        go_enter Tryd.func75, Tryd.ntmps75
        go_wp2_with (first
          | (go_at_call 95; go_must ((with_reducible refine HOP.out.mono ?_); rintro e w1 ⟨rfl, hs, hg⟩; have HG1 := Lib.hid (HST.out w1 hs hg); have hh := HG1.out.h2; have n1 : ¬ w1.heap.size = w.heap.size := (by omega); have n2 : ¬ w.heap.size = w1.heap.size := (by omega); clear hs hg hh))
          | (go_at_call 72; go_must ((with_reducible refine (HI.out _ HG1.out.tb.tabs).mono ?_); rintro e w2 ⟨rfl, hb⟩; unfold infV; have HG2 := Lib.hid (HG1.out.below hb); have c0 := HG2.out.box.cell 0; have c1 := HG2.out.box.cell 1; have c2 := HG2.out.box.cell 2; have c3 := HG2.out.box.cell 3; have f1 := HG2.out.box.frozen 1; have f2 := HG2.out.box.frozen 2; have f3 := HG2.out.box.frozen 3; have r0 := HG2.out.res.cell 0; have r1 := HG2.out.res.cell 1; have r2 := HG2.out.res.cell 2; have r3 := HG2.out.res.cell 3; have z0 := HG2.out.res.frozen 0; have z1 := HG2.out.res.frozen 1; have z2 := HG2.out.res.frozen 2; have z3 := HG2.out.res.frozen 3; simp only [List.getElem?_toArray, List.getElem?_cons_zero, List.getElem?_cons_succ] at c0 c1 c2 c3 r0 r1 r2 r3; clear hb))
          | (go_at_call 96; go_must ((with_reducible refine (HX0.out _ (HG2.out).sc).mono ?_); rintro e w3 ⟨rfl, hs, hg⟩; clear c0 c1 c2 c3 f1 f2 f3 r0 r1 r2 r3 z0 z1 z2 z3; have HG3 := Lib.hid ((HG2.out).call hs hg); have c0 := HG3.out.box.cell 0; have c1 := HG3.out.box.cell 1; have c2 := HG3.out.box.cell 2; have c3 := HG3.out.box.cell 3; have f1 := HG3.out.box.frozen 1; have f2 := HG3.out.box.frozen 2; have f3 := HG3.out.box.frozen 3; have r0 := HG3.out.res.cell 0; have r1 := HG3.out.res.cell 1; have r2 := HG3.out.res.cell 2; have r3 := HG3.out.res.cell 3; have z0 := HG3.out.res.frozen 0; have z1 := HG3.out.res.frozen 1; have z2 := HG3.out.res.frozen 2; have z3 := HG3.out.res.frozen 3; simp only [List.getElem?_toArray, List.getElem?_cons_zero, List.getElem?_cons_succ] at c0 c1 c2 c3 r0 r1 r2 r3; clear hs hg)))
        obtain ⟨q, hf⟩ := GSt.fin ((HG3.out.put 1 (.int .u64 v0) rfl)) (.int .u8 c.toNat) (.int .u64 v0) (.int .u64 0) (.slice none 0 0) _ rfl
        have q0 := q.cell 0
        have q1 := q.cell 1
        have q2 := q.cell 2
        have q3 := q.cell 3
        simp only [List.getElem?_toArray, List.getElem?_cons_zero, List.getElem?_cons_succ] at q0 q1 q2 q3
        exact bodyPost_ret (v := insV (⟨c, v0, 0, []⟩ : I) none 0) (by simp [results, Tryd.results75, go_sem, q0, q1, q2, q3]) rfl (gets_end (i := (⟨c, v0, 0, []⟩ : I)) ((HG3.out.put 1 (.int .u64 v0) rfl)) hf rfl rfl)
    have d1 : ((m : Int) == 1) = false := by simp; omega
    by_cases m3 : m = 3
    · subst m3
      rw [show bodyR 3 c l k1 = (labelsR l k1).bind fun ls k1 => (indexR l k1).bind fun a k2 => .ok ⟨c, a, 0, ls⟩ k2 from by unfold bodyR; rw [if_neg (by omega), if_neg (by omega), if_pos rfl]]
      have hX0 := fun W (h : Sc W p l k1) => getLabels_any h
      cases hr0 : labelsR l k1 with
      | err ec ea =>
        rw [Res.bind_err]
        show Calls _ _ _ _ (fun e w' => e = .panicked (stopP ec ea) ∧ w.grownBy w' (some p))
        have HX0 := Lib.hid (fun W (h : Sc W p l k1) => show Calls Tryd.prog 97 #[.pointer (some ⟨p, 0, none⟩)] W (LabsR p l (.err ec ea) W) from by have := hX0 W h; rw [hr0] at this; exact this)
        clear hX0 hr0
        go_enter Tryd.func75, Tryd.ntmps75
        go_wp2_with (first
          | (go_at_call 95; go_must ((with_reducible refine HOP.out.mono ?_); rintro e w1 ⟨rfl, hs, hg⟩; have HG1 := Lib.hid (HST.out w1 hs hg); have hh := HG1.out.h2; have n1 : ¬ w1.heap.size = w.heap.size := (by omega); have n2 : ¬ w.heap.size = w1.heap.size := (by omega); clear hs hg hh))
          | (go_at_call 72; go_must ((with_reducible refine (HI.out _ HG1.out.tb.tabs).mono ?_); rintro e w2 ⟨rfl, hb⟩; unfold infV; have HG2 := Lib.hid (HG1.out.below hb); have c0 := HG2.out.box.cell 0; have c1 := HG2.out.box.cell 1; have c2 := HG2.out.box.cell 2; have c3 := HG2.out.box.cell 3; have f1 := HG2.out.box.frozen 1; have f2 := HG2.out.box.frozen 2; have f3 := HG2.out.box.frozen 3; have r0 := HG2.out.res.cell 0; have r1 := HG2.out.res.cell 1; have r2 := HG2.out.res.cell 2; have r3 := HG2.out.res.cell 3; have z0 := HG2.out.res.frozen 0; have z1 := HG2.out.res.frozen 1; have z2 := HG2.out.res.frozen 2; have z3 := HG2.out.res.frozen 3; simp only [List.getElem?_toArray, List.getElem?_cons_zero, List.getElem?_cons_succ] at c0 c1 c2 c3 r0 r1 r2 r3; clear hb))
          | (go_at_call 97; go_must ((with_reducible refine (HX0.out _ (HG2.out).sc).mono ?_); rintro e w3 ⟨rfl, hg⟩; have HGE := Lib.hid hg; clear hg)))
        exact ⟨rfl, rfl, gb_trans (HG2.out).gr HGE.out⟩
      | ok v0 k2 =>
        rw [Res.bind_ok]
        have HX0 := Lib.hid (fun W (h : Sc W p l k1) => show Calls Tryd.prog 97 #[.pointer (some ⟨p, 0, none⟩)] W (LabsR p l (.ok v0 k2) W) from by have := hX0 W h; rw [hr0] at this; exact this)
        clear hX0 hr0
        have hX1 := fun W (h : Sc W p l k2) => getNumber_any h
        cases hr1 : indexR l k2 with
        | err ec ea =>
          rw [Res.bind_err]
          show Calls _ _ _ _ (fun e w' => e = .panicked (stopP ec ea) ∧ w.grownBy w' (some p))
          have HX1 := Lib.hid (fun W (h : Sc W p l k2) => show Calls Tryd.prog 98 #[.pointer (some ⟨p, 0, none⟩)] W (Did enc64 p l W (.err ec ea)) from by have := hX1 W h; rw [hr1] at this; exact this)
          clear hX1 hr1
          go_enter Tryd.func75, Tryd.ntmps75
          go_wp2_with (first
            | (go_at_call 95; go_must ((with_reducible refine HOP.out.mono ?_); rintro e w1 ⟨rfl, hs, hg⟩; have HG1 := Lib.hid (HST.out w1 hs hg); have hh := HG1.out.h2; have n1 : ¬ w1.heap.size = w.heap.size := (by omega); have n2 : ¬ w.heap.size = w1.heap.size := (by omega); clear hs hg hh))
            | (go_at_call 72; go_must ((with_reducible refine (HI.out _ HG1.out.tb.tabs).mono ?_); rintro e w2 ⟨rfl, hb⟩; unfold infV; have HG2 := Lib.hid (HG1.out.below hb); have c0 := HG2.out.box.cell 0; have c1 := HG2.out.box.cell 1; have c2 := HG2.out.box.cell 2; have c3 := HG2.out.box.cell 3; have f1 := HG2.out.box.frozen 1; have f2 := HG2.out.box.frozen 2; have f3 := HG2.out.box.frozen 3; have r0 := HG2.out.res.cell 0; have r1 := HG2.out.res.cell 1; have r2 := HG2.out.res.cell 2; have r3 := HG2.out.res.cell 3; have z0 := HG2.out.res.frozen 0; have z1 := HG2.out.res.frozen 1; have z2 := HG2.out.res.frozen 2; have z3 := HG2.out.res.frozen 3; simp only [List.getElem?_toArray, List.getElem?_cons_zero, List.getElem?_cons_succ] at c0 c1 c2 c3 r0 r1 r2 r3; clear hb))
            | (have tok := HG3; go_at_call 98; go_must ((with_reducible refine (HX1.out _ ((HG3.out.put 3 (.slice A v0.length cp) rfl)).sc).mono ?_); rintro e w4 ⟨rfl, hg⟩; have HGE := Lib.hid hg; clear hg))
            | (go_at_call 97; go_must ((with_reducible refine (HX0.out _ (HG2.out).sc).mono ?_); intro e w3 hq; obtain ⟨A, cp, rfl, hge, hs, hg, hty⟩ := hq; clear c0 c1 c2 c3 f1 f2 f3 r0 r1 r2 r3 z0 z1 z2 z3; have HG3 := Lib.hid (((HG2.out).call hs hg).labs hty (fun a ha => Nat.lt_of_lt_of_le (HG2.out).box.lt (hge a ha))); have c0 := HG3.out.box.cell 0; have c1 := HG3.out.box.cell 1; have c2 := HG3.out.box.cell 2; have c3 := HG3.out.box.cell 3; have f1 := HG3.out.box.frozen 1; have f2 := HG3.out.box.frozen 2; have f3 := HG3.out.box.frozen 3; have r0 := HG3.out.res.cell 0; have r1 := HG3.out.res.cell 1; have r2 := HG3.out.res.cell 2; have r3 := HG3.out.res.cell 3; have z0 := HG3.out.res.frozen 0; have z1 := HG3.out.res.frozen 1; have z2 := HG3.out.res.frozen 2; have z3 := HG3.out.res.frozen 3; simp only [List.getElem?_toArray, List.getElem?_cons_zero, List.getElem?_cons_succ] at c0 c1 c2 c3 r0 r1 r2 r3; clear hs hg hge hty)))
          exact ⟨rfl, rfl, gb_trans ((HG3.out.put 3 (.slice A v0.length cp) rfl)).gr HGE.out⟩
        | ok v1 k3 =>
          rw [Res.bind_ok]
          have HX1 := Lib.hid (fun W (h : Sc W p l k2) => show Calls Tryd.prog 98 #[.pointer (some ⟨p, 0, none⟩)] W (Did enc64 p l W (.ok v1 k3)) from by have := hX1 W h; rw [hr1] at this; exact this)
          clear hX1 hr1
          go_enter Tryd.func75, Tryd.ntmps75
          go_wp2_with (first
            | (go_at_call 95; go_must ((with_reducible refine HOP.out.mono ?_); rintro e w1 ⟨rfl, hs, hg⟩; have HG1 := Lib.hid (HST.out w1 hs hg); have hh := HG1.out.h2; have n1 : ¬ w1.heap.size = w.heap.size := (by omega); have n2 : ¬ w.heap.size = w1.heap.size := (by omega); clear hs hg hh))
            | (go_at_call 72; go_must ((with_reducible refine (HI.out _ HG1.out.tb.tabs).mono ?_); rintro e w2 ⟨rfl, hb⟩; unfold infV; have HG2 := Lib.hid (HG1.out.below hb); have c0 := HG2.out.box.cell 0; have c1 := HG2.out.box.cell 1; have c2 := HG2.out.box.cell 2; have c3 := HG2.out.box.cell 3; have f1 := HG2.out.box.frozen 1; have f2 := HG2.out.box.frozen 2; have f3 := HG2.out.box.frozen 3; have r0 := HG2.out.res.cell 0; have r1 := HG2.out.res.cell 1; have r2 := HG2.out.res.cell 2; have r3 := HG2.out.res.cell 3; have z0 := HG2.out.res.frozen 0; have z1 := HG2.out.res.frozen 1; have z2 := HG2.out.res.frozen 2; have z3 := HG2.out.res.frozen 3; simp only [List.getElem?_toArray, List.getElem?_cons_zero, List.getElem?_cons_succ] at c0 c1 c2 c3 r0 r1 r2 r3; clear hb))
            | (have tok := HG3; go_at_call 98; go_must ((with_reducible refine (HX1.out _ ((HG3.out.put 3 (.slice A v0.length cp) rfl)).sc).mono ?_); rintro e w4 ⟨rfl, hs, hg⟩; clear c0 c1 c2 c3 f1 f2 f3 r0 r1 r2 r3 z0 z1 z2 z3; have HG4 := Lib.hid (((HG3.out.put 3 (.slice A v0.length cp) rfl)).call hs hg); have c0 := HG4.out.box.cell 0; have c1 := HG4.out.box.cell 1; have c2 := HG4.out.box.cell 2; have c3 := HG4.out.box.cell 3; have f1 := HG4.out.box.frozen 1; have f2 := HG4.out.box.frozen 2; have f3 := HG4.out.box.frozen 3; have r0 := HG4.out.res.cell 0; have r1 := HG4.out.res.cell 1; have r2 := HG4.out.res.cell 2; have r3 := HG4.out.res.cell 3; have z0 := HG4.out.res.frozen 0; have z1 := HG4.out.res.frozen 1; have z2 := HG4.out.res.frozen 2; have z3 := HG4.out.res.frozen 3; simp only [List.getElem?_toArray, List.getElem?_cons_zero, List.getElem?_cons_succ] at c0 c1 c2 c3 r0 r1 r2 r3; clear hs hg))
            | (go_at_call 97; go_must ((with_reducible refine (HX0.out _ (HG2.out).sc).mono ?_); intro e w3 hq; obtain ⟨A, cp, rfl, hge, hs, hg, hty⟩ := hq; clear c0 c1 c2 c3 f1 f2 f3 r0 r1 r2 r3 z0 z1 z2 z3; have HG3 := Lib.hid (((HG2.out).call hs hg).labs hty (fun a ha => Nat.lt_of_lt_of_le (HG2.out).box.lt (hge a ha))); have c0 := HG3.out.box.cell 0; have c1 := HG3.out.box.cell 1; have c2 := HG3.out.box.cell 2; have c3 := HG3.out.box.cell 3; have f1 := HG3.out.box.frozen 1; have f2 := HG3.out.box.frozen 2; have f3 := HG3.out.box.frozen 3; have r0 := HG3.out.res.cell 0; have r1 := HG3.out.res.cell 1; have r2 := HG3.out.res.cell 2; have r3 := HG3.out.res.cell 3; have z0 := HG3.out.res.frozen 0; have z1 := HG3.out.res.frozen 1; have z2 := HG3.out.res.frozen 2; have z3 := HG3.out.res.frozen 3; simp only [List.getElem?_toArray, List.getElem?_cons_zero, List.getElem?_cons_succ] at c0 c1 c2 c3 r0 r1 r2 r3; clear hs hg hge hty)))
          obtain ⟨q, hf⟩ := GSt.fin ((HG4.out.put 1 (.int .u64 v1) rfl)) (.int .u8 c.toNat) (.int .u64 v1) (.int .u64 0) (.slice A v0.length cp) _ rfl
          have q0 := q.cell 0
          have q1 := q.cell 1
          have q2 := q.cell 2
          have q3 := q.cell 3
          simp only [List.getElem?_toArray, List.getElem?_cons_zero, List.getElem?_cons_succ] at q0 q1 q2 q3
          exact bodyPost_ret (v := insV (⟨c, v1, 0, v0⟩ : I) A cp) (by simp [results, Tryd.results75, go_sem, q0, q1, q2, q3]) rfl (gets_end (i := (⟨c, v1, 0, v0⟩ : I)) ((HG4.out.put 1 (.int .u64 v1) rfl)) hf rfl rfl)
    have d3 : ((m : Int) == 3) = false := by simp; omega
    by_cases m5 : m = 5
    · subst m5
      rw [show bodyR 5 c l k1 = (indexR l k1).bind fun a k1 => (noughtR l k1).bind fun _ k2 => .ok ⟨c, a, 0, []⟩ k2 from by unfold bodyR; rw [if_neg (by omega), if_neg (by omega), if_neg (by omega), if_pos rfl]]
      have hX0 := fun W (h : Sc W p l k1) => getNumber_any h
      cases hr0 : indexR l k1 with
      | err ec ea =>
        rw [Res.bind_err]
        show Calls _ _ _ _ (fun e w' => e = .panicked (stopP ec ea) ∧ w.grownBy w' (some p))
        have HX0 := Lib.hid (fun W (h : Sc W p l k1) => show Calls Tryd.prog 98 #[.pointer (some ⟨p, 0, none⟩)] W (Did enc64 p l W (.err ec ea)) from by have := hX0 W h; rw [hr0] at this; exact this)
        clear hX0 hr0
        go_enter Tryd.func75, Tryd.ntmps75
        go_wp2_with (first
          | (go_at_call 95; go_must ((with_reducible refine HOP.out.mono ?_); rintro e w1 ⟨rfl, hs, hg⟩; have HG1 := Lib.hid (HST.out w1 hs hg); have hh := HG1.out.h2; have n1 : ¬ w1.heap.size = w.heap.size := (by omega); have n2 : ¬ w.heap.size = w1.heap.size := (by omega); clear hs hg hh))
          | (go_at_call 72; go_must ((with_reducible refine (HI.out _ HG1.out.tb.tabs).mono ?_); rintro e w2 ⟨rfl, hb⟩; unfold infV; have HG2 := Lib.hid (HG1.out.below hb); have c0 := HG2.out.box.cell 0; have c1 := HG2.out.box.cell 1; have c2 := HG2.out.box.cell 2; have c3 := HG2.out.box.cell 3; have f1 := HG2.out.box.frozen 1; have f2 := HG2.out.box.frozen 2; have f3 := HG2.out.box.frozen 3; have r0 := HG2.out.res.cell 0; have r1 := HG2.out.res.cell 1; have r2 := HG2.out.res.cell 2; have r3 := HG2.out.res.cell 3; have z0 := HG2.out.res.frozen 0; have z1 := HG2.out.res.frozen 1; have z2 := HG2.out.res.frozen 2; have z3 := HG2.out.res.frozen 3; simp only [List.getElem?_toArray, List.getElem?_cons_zero, List.getElem?_cons_succ] at c0 c1 c2 c3 r0 r1 r2 r3; clear hb))
          | (go_at_call 98; go_must ((with_reducible refine (HX0.out _ (HG2.out).sc).mono ?_); rintro e w3 ⟨rfl, hg⟩; have HGE := Lib.hid hg; clear hg)))
        exact ⟨rfl, rfl, gb_trans (HG2.out).gr HGE.out⟩
      | ok v0 k2 =>
        rw [Res.bind_ok]
        have HX0 := Lib.hid (fun W (h : Sc W p l k1) => show Calls Tryd.prog 98 #[.pointer (some ⟨p, 0, none⟩)] W (Did enc64 p l W (.ok v0 k2)) from by have := hX0 W h; rw [hr0] at this; exact this)
        clear hX0 hr0
        have hX1 := fun W (h : Sc W p l k2) => getNought_any h
        cases hr1 : noughtR l k2 with
        | err ec ea =>
          rw [Res.bind_err]
          show Calls _ _ _ _ (fun e w' => e = .panicked (stopP ec ea) ∧ w.grownBy w' (some p))
          have HX1 := Lib.hid (fun W (h : Sc W p l k2) => show Calls Tryd.prog 51 #[.pointer (some ⟨p, 0, none⟩)] W (Did encU p l W (.err ec ea)) from by have := hX1 W h; rw [hr1] at this; exact this)
          clear hX1 hr1
          go_enter Tryd.func75, Tryd.ntmps75
          go_wp2_with (first
            | (go_at_call 95; go_must ((with_reducible refine HOP.out.mono ?_); rintro e w1 ⟨rfl, hs, hg⟩; have HG1 := Lib.hid (HST.out w1 hs hg); have hh := HG1.out.h2; have n1 : ¬ w1.heap.size = w.heap.size := (by omega); have n2 : ¬ w.heap.size = w1.heap.size := (by omega); clear hs hg hh))
            | (go_at_call 72; go_must ((with_reducible refine (HI.out _ HG1.out.tb.tabs).mono ?_); rintro e w2 ⟨rfl, hb⟩; unfold infV; have HG2 := Lib.hid (HG1.out.below hb); have c0 := HG2.out.box.cell 0; have c1 := HG2.out.box.cell 1; have c2 := HG2.out.box.cell 2; have c3 := HG2.out.box.cell 3; have f1 := HG2.out.box.frozen 1; have f2 := HG2.out.box.frozen 2; have f3 := HG2.out.box.frozen 3; have r0 := HG2.out.res.cell 0; have r1 := HG2.out.res.cell 1; have r2 := HG2.out.res.cell 2; have r3 := HG2.out.res.cell 3; have z0 := HG2.out.res.frozen 0; have z1 := HG2.out.res.frozen 1; have z2 := HG2.out.res.frozen 2; have z3 := HG2.out.res.frozen 3; simp only [List.getElem?_toArray, List.getElem?_cons_zero, List.getElem?_cons_succ] at c0 c1 c2 c3 r0 r1 r2 r3; clear hb))
            | (have tok := HG3; go_at_call 51; go_must ((with_reducible refine (HX1.out _ ((HG3.out.put 1 (.int .u64 v0) rfl)).sc).mono ?_); rintro e w4 ⟨rfl, hg⟩; have HGE := Lib.hid hg; clear hg))
            | (go_at_call 98; go_must ((with_reducible refine (HX0.out _ (HG2.out).sc).mono ?_); rintro e w3 ⟨rfl, hs, hg⟩; clear c0 c1 c2 c3 f1 f2 f3 r0 r1 r2 r3 z0 z1 z2 z3; have HG3 := Lib.hid ((HG2.out).call hs hg); have c0 := HG3.out.box.cell 0; have c1 := HG3.out.box.cell 1; have c2 := HG3.out.box.cell 2; have c3 := HG3.out.box.cell 3; have f1 := HG3.out.box.frozen 1; have f2 := HG3.out.box.frozen 2; have f3 := HG3.out.box.frozen 3; have r0 := HG3.out.res.cell 0; have r1 := HG3.out.res.cell 1; have r2 := HG3.out.res.cell 2; have r3 := HG3.out.res.cell 3; have z0 := HG3.out.res.frozen 0; have z1 := HG3.out.res.frozen 1; have z2 := HG3.out.res.frozen 2; have z3 := HG3.out.res.frozen 3; simp only [List.getElem?_toArray, List.getElem?_cons_zero, List.getElem?_cons_succ] at c0 c1 c2 c3 r0 r1 r2 r3; clear hs hg)))
          exact ⟨rfl, rfl, gb_trans ((HG3.out.put 1 (.int .u64 v0) rfl)).gr HGE.out⟩
        | ok v1 k3 =>
          rw [Res.bind_ok]
          have HX1 := Lib.hid (fun W (h : Sc W p l k2) => show Calls Tryd.prog 51 #[.pointer (some ⟨p, 0, none⟩)] W (Did encU p l W (.ok v1 k3)) from by have := hX1 W h; rw [hr1] at this; exact this)
          clear hX1 hr1
          go_enter Tryd.func75, Tryd.ntmps75
          go_wp2_with (first
            | (go_at_call 95; go_must ((with_reducible refine HOP.out.mono ?_); rintro e w1 ⟨rfl, hs, hg⟩; have HG1 := Lib.hid (HST.out w1 hs hg); have hh := HG1.out.h2; have n1 : ¬ w1.heap.size = w.heap.size := (by omega); have n2 : ¬ w.heap.size = w1.heap.size := (by omega); clear hs hg hh))
            | (go_at_call 72; go_must ((with_reducible refine (HI.out _ HG1.out.tb.tabs).mono ?_); rintro e w2 ⟨rfl, hb⟩; unfold infV; have HG2 := Lib.hid (HG1.out.below hb); have c0 := HG2.out.box.cell 0; have c1 := HG2.out.box.cell 1; have c2 := HG2.out.box.cell 2; have c3 := HG2.out.box.cell 3; have f1 := HG2.out.box.frozen 1; have f2 := HG2.out.box.frozen 2; have f3 := HG2.out.box.frozen 3; have r0 := HG2.out.res.cell 0; have r1 := HG2.out.res.cell 1; have r2 := HG2.out.res.cell 2; have r3 := HG2.out.res.cell 3; have z0 := HG2.out.res.frozen 0; have z1 := HG2.out.res.frozen 1; have z2 := HG2.out.res.frozen 2; have z3 := HG2.out.res.frozen 3; simp only [List.getElem?_toArray, List.getElem?_cons_zero, List.getElem?_cons_succ] at c0 c1 c2 c3 r0 r1 r2 r3; clear hb))
            | (have tok := HG3; go_at_call 51; go_must ((with_reducible refine (HX1.out _ ((HG3.out.put 1 (.int .u64 v0) rfl)).sc).mono ?_); rintro e w4 ⟨rfl, hs, hg⟩; clear c0 c1 c2 c3 f1 f2 f3 r0 r1 r2 r3 z0 z1 z2 z3; have HG4 := Lib.hid (((HG3.out.put 1 (.int .u64 v0) rfl)).call hs hg); have c0 := HG4.out.box.cell 0; have c1 := HG4.out.box.cell 1; have c2 := HG4.out.box.cell 2; have c3 := HG4.out.box.cell 3; have f1 := HG4.out.box.frozen 1; have f2 := HG4.out.box.frozen 2; have f3 := HG4.out.box.frozen 3; have r0 := HG4.out.res.cell 0; have r1 := HG4.out.res.cell 1; have r2 := HG4.out.res.cell 2; have r3 := HG4.out.res.cell 3; have z0 := HG4.out.res.frozen 0; have z1 := HG4.out.res.frozen 1; have z2 := HG4.out.res.frozen 2; have z3 := HG4.out.res.frozen 3; simp only [List.getElem?_toArray, List.getElem?_cons_zero, List.getElem?_cons_succ] at c0 c1 c2 c3 r0 r1 r2 r3; clear hs hg))
            | (go_at_call 98; go_must ((with_reducible refine (HX0.out _ (HG2.out).sc).mono ?_); rintro e w3 ⟨rfl, hs, hg⟩; clear c0 c1 c2 c3 f1 f2 f3 r0 r1 r2 r3 z0 z1 z2 z3; have HG3 := Lib.hid ((HG2.out).call hs hg); have c0 := HG3.out.box.cell 0; have c1 := HG3.out.box.cell 1; have c2 := HG3.out.box.cell 2; have c3 := HG3.out.box.cell 3; have f1 := HG3.out.box.frozen 1; have f2 := HG3.out.box.frozen 2; have f3 := HG3.out.box.frozen 3; have r0 := HG3.out.res.cell 0; have r1 := HG3.out.res.cell 1; have r2 := HG3.out.res.cell 2; have r3 := HG3.out.res.cell 3; have z0 := HG3.out.res.frozen 0; have z1 := HG3.out.res.frozen 1; have z2 := HG3.out.res.frozen 2; have z3 := HG3.out.res.frozen 3; simp only [List.getElem?_toArray, List.getElem?_cons_zero, List.getElem?_cons_succ] at c0 c1 c2 c3 r0 r1 r2 r3; clear hs hg)))
          obtain ⟨q, hf⟩ := GSt.fin (HG4.out) (.int .u8 c.toNat) (.int .u64 v0) (.int .u64 0) (.slice none 0 0) _ rfl
          have q0 := q.cell 0
          have q1 := q.cell 1
          have q2 := q.cell 2
          have q3 := q.cell 3
          simp only [List.getElem?_toArray, List.getElem?_cons_zero, List.getElem?_cons_succ] at q0 q1 q2 q3
          exact bodyPost_ret (v := insV (⟨c, v0, 0, []⟩ : I) none 0) (by simp [results, Tryd.results75, go_sem, q0, q1, q2, q3]) rfl (gets_end (i := (⟨c, v0, 0, []⟩ : I)) (HG4.out) hf rfl rfl)
    have d5 : ((m : Int) == 5) = false := by simp; omega
    by_cases m8 : m = 8
    · subst m8
      rw [show bodyR 8 c l k1 = (indexR l k1).bind fun a k1 => (indexR l k1).bind fun b k2 => .ok ⟨c, a, b, []⟩ k2 from by unfold bodyR; rw [if_neg (by omega), if_neg (by omega), if_neg (by omega), if_neg (by omega), if_pos rfl]]
      have hX0 := fun W (h : Sc W p l k1) => getNumber_any h
      cases hr0 : indexR l k1 with
      | err ec ea =>
        rw [Res.bind_err]
        show Calls _ _ _ _ (fun e w' => e = .panicked (stopP ec ea) ∧ w.grownBy w' (some p))
        have HX0 := Lib.hid (fun W (h : Sc W p l k1) => show Calls Tryd.prog 98 #[.pointer (some ⟨p, 0, none⟩)] W (Did enc64 p l W (.err ec ea)) from by have := hX0 W h; rw [hr0] at this; exact this)
        clear hX0 hr0
        go_enter Tryd.func75, Tryd.ntmps75
        go_wp2_with (first
          | (go_at_call 95; go_must ((with_reducible refine HOP.out.mono ?_); rintro e w1 ⟨rfl, hs, hg⟩; have HG1 := Lib.hid (HST.out w1 hs hg); have hh := HG1.out.h2; have n1 : ¬ w1.heap.size = w.heap.size := (by omega); have n2 : ¬ w.heap.size = w1.heap.size := (by omega); clear hs hg hh))
          | (go_at_call 72; go_must ((with_reducible refine (HI.out _ HG1.out.tb.tabs).mono ?_); rintro e w2 ⟨rfl, hb⟩; unfold infV; have HG2 := Lib.hid (HG1.out.below hb); have c0 := HG2.out.box.cell 0; have c1 := HG2.out.box.cell 1; have c2 := HG2.out.box.cell 2; have c3 := HG2.out.box.cell 3; have f1 := HG2.out.box.frozen 1; have f2 := HG2.out.box.frozen 2; have f3 := HG2.out.box.frozen 3; have r0 := HG2.out.res.cell 0; have r1 := HG2.out.res.cell 1; have r2 := HG2.out.res.cell 2; have r3 := HG2.out.res.cell 3; have z0 := HG2.out.res.frozen 0; have z1 := HG2.out.res.frozen 1; have z2 := HG2.out.res.frozen 2; have z3 := HG2.out.res.frozen 3; simp only [List.getElem?_toArray, List.getElem?_cons_zero, List.getElem?_cons_succ] at c0 c1 c2 c3 r0 r1 r2 r3; clear hb))
          | (go_at_call 98; go_must ((with_reducible refine (HX0.out _ (HG2.out).sc).mono ?_); rintro e w3 ⟨rfl, hg⟩; have HGE := Lib.hid hg; clear hg)))
        exact ⟨rfl, rfl, gb_trans (HG2.out).gr HGE.out⟩
      | ok v0 k2 =>
        rw [Res.bind_ok]
        have HX0 := Lib.hid (fun W (h : Sc W p l k1) => show Calls Tryd.prog 98 #[.pointer (some ⟨p, 0, none⟩)] W (Did enc64 p l W (.ok v0 k2)) from by have := hX0 W h; rw [hr0] at this; exact this)
        clear hX0 hr0
        have hX1 := fun W (h : Sc W p l k2) => getNumber_any h
        cases hr1 : indexR l k2 with
        | err ec ea =>
          rw [Res.bind_err]
          show Calls _ _ _ _ (fun e w' => e = .panicked (stopP ec ea) ∧ w.grownBy w' (some p))
          have HX1 := Lib.hid (fun W (h : Sc W p l k2) => show Calls Tryd.prog 98 #[.pointer (some ⟨p, 0, none⟩)] W (Did enc64 p l W (.err ec ea)) from by have := hX1 W h; rw [hr1] at this; exact this)
          clear hX1 hr1
          go_enter Tryd.func75, Tryd.ntmps75
          go_wp2_with (first
            | (go_at_call 95; go_must ((with_reducible refine HOP.out.mono ?_); rintro e w1 ⟨rfl, hs, hg⟩; have HG1 := Lib.hid (HST.out w1 hs hg); have hh := HG1.out.h2; have n1 : ¬ w1.heap.size = w.heap.size := (by omega); have n2 : ¬ w.heap.size = w1.heap.size := (by omega); clear hs hg hh))
            | (go_at_call 72; go_must ((with_reducible refine (HI.out _ HG1.out.tb.tabs).mono ?_); rintro e w2 ⟨rfl, hb⟩; unfold infV; have HG2 := Lib.hid (HG1.out.below hb); have c0 := HG2.out.box.cell 0; have c1 := HG2.out.box.cell 1; have c2 := HG2.out.box.cell 2; have c3 := HG2.out.box.cell 3; have f1 := HG2.out.box.frozen 1; have f2 := HG2.out.box.frozen 2; have f3 := HG2.out.box.frozen 3; have r0 := HG2.out.res.cell 0; have r1 := HG2.out.res.cell 1; have r2 := HG2.out.res.cell 2; have r3 := HG2.out.res.cell 3; have z0 := HG2.out.res.frozen 0; have z1 := HG2.out.res.frozen 1; have z2 := HG2.out.res.frozen 2; have z3 := HG2.out.res.frozen 3; simp only [List.getElem?_toArray, List.getElem?_cons_zero, List.getElem?_cons_succ] at c0 c1 c2 c3 r0 r1 r2 r3; clear hb))
            | (have tok := HG3; go_at_call 98; go_must ((with_reducible refine (HX1.out _ ((HG3.out.put 1 (.int .u64 v0) rfl)).sc).mono ?_); rintro e w4 ⟨rfl, hg⟩; have HGE := Lib.hid hg; clear hg))
            | (go_at_call 98; go_must ((with_reducible refine (HX0.out _ (HG2.out).sc).mono ?_); rintro e w3 ⟨rfl, hs, hg⟩; clear c0 c1 c2 c3 f1 f2 f3 r0 r1 r2 r3 z0 z1 z2 z3; have HG3 := Lib.hid ((HG2.out).call hs hg); have c0 := HG3.out.box.cell 0; have c1 := HG3.out.box.cell 1; have c2 := HG3.out.box.cell 2; have c3 := HG3.out.box.cell 3; have f1 := HG3.out.box.frozen 1; have f2 := HG3.out.box.frozen 2; have f3 := HG3.out.box.frozen 3; have r0 := HG3.out.res.cell 0; have r1 := HG3.out.res.cell 1; have r2 := HG3.out.res.cell 2; have r3 := HG3.out.res.cell 3; have z0 := HG3.out.res.frozen 0; have z1 := HG3.out.res.frozen 1; have z2 := HG3.out.res.frozen 2; have z3 := HG3.out.res.frozen 3; simp only [List.getElem?_toArray, List.getElem?_cons_zero, List.getElem?_cons_succ] at c0 c1 c2 c3 r0 r1 r2 r3; clear hs hg)))
          exact ⟨rfl, rfl, gb_trans ((HG3.out.put 1 (.int .u64 v0) rfl)).gr HGE.out⟩
        | ok v1 k3 =>
          rw [Res.bind_ok]
          have HX1 := Lib.hid (fun W (h : Sc W p l k2) => show Calls Tryd.prog 98 #[.pointer (some ⟨p, 0, none⟩)] W (Did enc64 p l W (.ok v1 k3)) from by have := hX1 W h; rw [hr1] at this; exact this)
          clear hX1 hr1
          go_enter Tryd.func75, Tryd.ntmps75
          go_wp2_with (first
            | (go_at_call 95; go_must ((with_reducible refine HOP.out.mono ?_); rintro e w1 ⟨rfl, hs, hg⟩; have HG1 := Lib.hid (HST.out w1 hs hg); have hh := HG1.out.h2; have n1 : ¬ w1.heap.size = w.heap.size := (by omega); have n2 : ¬ w.heap.size = w1.heap.size := (by omega); clear hs hg hh))
            | (go_at_call 72; go_must ((with_reducible refine (HI.out _ HG1.out.tb.tabs).mono ?_); rintro e w2 ⟨rfl, hb⟩; unfold infV; have HG2 := Lib.hid (HG1.out.below hb); have c0 := HG2.out.box.cell 0; have c1 := HG2.out.box.cell 1; have c2 := HG2.out.box.cell 2; have c3 := HG2.out.box.cell 3; have f1 := HG2.out.box.frozen 1; have f2 := HG2.out.box.frozen 2; have f3 := HG2.out.box.frozen 3; have r0 := HG2.out.res.cell 0; have r1 := HG2.out.res.cell 1; have r2 := HG2.out.res.cell 2; have r3 := HG2.out.res.cell 3; have z0 := HG2.out.res.frozen 0; have z1 := HG2.out.res.frozen 1; have z2 := HG2.out.res.frozen 2; have z3 := HG2.out.res.frozen 3; simp only [List.getElem?_toArray, List.getElem?_cons_zero, List.getElem?_cons_succ] at c0 c1 c2 c3 r0 r1 r2 r3; clear hb))
            | (have tok := HG3; go_at_call 98; go_must ((with_reducible refine (HX1.out _ ((HG3.out.put 1 (.int .u64 v0) rfl)).sc).mono ?_); rintro e w4 ⟨rfl, hs, hg⟩; clear c0 c1 c2 c3 f1 f2 f3 r0 r1 r2 r3 z0 z1 z2 z3; have HG4 := Lib.hid (((HG3.out.put 1 (.int .u64 v0) rfl)).call hs hg); have c0 := HG4.out.box.cell 0; have c1 := HG4.out.box.cell 1; have c2 := HG4.out.box.cell 2; have c3 := HG4.out.box.cell 3; have f1 := HG4.out.box.frozen 1; have f2 := HG4.out.box.frozen 2; have f3 := HG4.out.box.frozen 3; have r0 := HG4.out.res.cell 0; have r1 := HG4.out.res.cell 1; have r2 := HG4.out.res.cell 2; have r3 := HG4.out.res.cell 3; have z0 := HG4.out.res.frozen 0; have z1 := HG4.out.res.frozen 1; have z2 := HG4.out.res.frozen 2; have z3 := HG4.out.res.frozen 3; simp only [List.getElem?_toArray, List.getElem?_cons_zero, List.getElem?_cons_succ] at c0 c1 c2 c3 r0 r1 r2 r3; clear hs hg))
            | (go_at_call 98; go_must ((with_reducible refine (HX0.out _ (HG2.out).sc).mono ?_); rintro e w3 ⟨rfl, hs, hg⟩; clear c0 c1 c2 c3 f1 f2 f3 r0 r1 r2 r3 z0 z1 z2 z3; have HG3 := Lib.hid ((HG2.out).call hs hg); have c0 := HG3.out.box.cell 0; have c1 := HG3.out.box.cell 1; have c2 := HG3.out.box.cell 2; have c3 := HG3.out.box.cell 3; have f1 := HG3.out.box.frozen 1; have f2 := HG3.out.box.frozen 2; have f3 := HG3.out.box.frozen 3; have r0 := HG3.out.res.cell 0; have r1 := HG3.out.res.cell 1; have r2 := HG3.out.res.cell 2; have r3 := HG3.out.res.cell 3; have z0 := HG3.out.res.frozen 0; have z1 := HG3.out.res.frozen 1; have z2 := HG3.out.res.frozen 2; have z3 := HG3.out.res.frozen 3; simp only [List.getElem?_toArray, List.getElem?_cons_zero, List.getElem?_cons_succ] at c0 c1 c2 c3 r0 r1 r2 r3; clear hs hg)))
          obtain ⟨q, hf⟩ := GSt.fin ((HG4.out.put 2 (.int .u64 v1) rfl)) (.int .u8 c.toNat) (.int .u64 v0) (.int .u64 v1) (.slice none 0 0) _ rfl
          have q0 := q.cell 0
          have q1 := q.cell 1
          have q2 := q.cell 2
          have q3 := q.cell 3
          simp only [List.getElem?_toArray, List.getElem?_cons_zero, List.getElem?_cons_succ] at q0 q1 q2 q3
          exact bodyPost_ret (v := insV (⟨c, v0, v1, []⟩ : I) none 0) (by simp [results, Tryd.results75, go_sem, q0, q1, q2, q3]) rfl (gets_end (i := (⟨c, v0, v1, []⟩ : I)) ((HG4.out.put 2 (.int .u64 v1) rfl)) hf rfl rfl)
    have d8 : ((m : Int) == 8) = false := by simp; omega
    by_cases m9 : m = 9
    · subst m9
      rw [show bodyR 9 c l k1 = (noughtR l k1).bind fun _ k1 => .ok ⟨c, 0, 0, []⟩ k1 from by unfold bodyR; rw [if_neg (by omega), if_neg (by omega), if_neg (by omega), if_neg (by omega), if_neg (by omega), if_pos rfl]]
      have hX0 := fun W (h : Sc W p l k1) => getNought_any h
      cases hr0 : noughtR l k1 with
      | err ec ea =>
        rw [Res.bind_err]
        show Calls _ _ _ _ (fun e w' => e = .panicked (stopP ec ea) ∧ w.grownBy w' (some p))
        have HX0 := Lib.hid (fun W (h : Sc W p l k1) => show Calls Tryd.prog 51 #[.pointer (some ⟨p, 0, none⟩)] W (Did encU p l W (.err ec ea)) from by have := hX0 W h; rw [hr0] at this; exact this)
        clear hX0 hr0
        go_enter Tryd.func75, Tryd.ntmps75
        go_wp2_with (first
          | (go_at_call 95; go_must ((with_reducible refine HOP.out.mono ?_); rintro e w1 ⟨rfl, hs, hg⟩; have HG1 := Lib.hid (HST.out w1 hs hg); have hh := HG1.out.h2; have n1 : ¬ w1.heap.size = w.heap.size := (by omega); have n2 : ¬ w.heap.size = w1.heap.size := (by omega); clear hs hg hh))
          | (go_at_call 72; go_must ((with_reducible refine (HI.out _ HG1.out.tb.tabs).mono ?_); rintro e w2 ⟨rfl, hb⟩; unfold infV; have HG2 := Lib.hid (HG1.out.below hb); have c0 := HG2.out.box.cell 0; have c1 := HG2.out.box.cell 1; have c2 := HG2.out.box.cell 2; have c3 := HG2.out.box.cell 3; have f1 := HG2.out.box.frozen 1; have f2 := HG2.out.box.frozen 2; have f3 := HG2.out.box.frozen 3; have r0 := HG2.out.res.cell 0; have r1 := HG2.out.res.cell 1; have r2 := HG2.out.res.cell 2; have r3 := HG2.out.res.cell 3; have z0 := HG2.out.res.frozen 0; have z1 := HG2.out.res.frozen 1; have z2 := HG2.out.res.frozen 2; have z3 := HG2.out.res.frozen 3; simp only [List.getElem?_toArray, List.getElem?_cons_zero, List.getElem?_cons_succ] at c0 c1 c2 c3 r0 r1 r2 r3; clear hb))
          | (go_at_call 51; go_must ((with_reducible refine (HX0.out _ (HG2.out).sc).mono ?_); rintro e w3 ⟨rfl, hg⟩; have HGE := Lib.hid hg; clear hg)))
        exact ⟨rfl, rfl, gb_trans (HG2.out).gr HGE.out⟩
      | ok v0 k2 =>
        rw [Res.bind_ok]
        have HX0 := Lib.hid (fun W (h : Sc W p l k1) => show Calls Tryd.prog 51 #[.pointer (some ⟨p, 0, none⟩)] W (Did encU p l W (.ok v0 k2)) from by have := hX0 W h; rw [hr0] at this; exact this)
        clear hX0 hr0
        go_enter Tryd.func75, Tryd.ntmps75
        go_wp2_with (first
          | (go_at_call 95; go_must ((with_reducible refine HOP.out.mono ?_); rintro e w1 ⟨rfl, hs, hg⟩; have HG1 := Lib.hid (HST.out w1 hs hg); have hh := HG1.out.h2; have n1 : ¬ w1.heap.size = w.heap.size := (by omega); have n2 : ¬ w.heap.size = w1.heap.size := (by omega); clear hs hg hh))
          | (go_at_call 72; go_must ((with_reducible refine (HI.out _ HG1.out.tb.tabs).mono ?_); rintro e w2 ⟨rfl, hb⟩; unfold infV; have HG2 := Lib.hid (HG1.out.below hb); have c0 := HG2.out.box.cell 0; have c1 := HG2.out.box.cell 1; have c2 := HG2.out.box.cell 2; have c3 := HG2.out.box.cell 3; have f1 := HG2.out.box.frozen 1; have f2 := HG2.out.box.frozen 2; have f3 := HG2.out.box.frozen 3; have r0 := HG2.out.res.cell 0; have r1 := HG2.out.res.cell 1; have r2 := HG2.out.res.cell 2; have r3 := HG2.out.res.cell 3; have z0 := HG2.out.res.frozen 0; have z1 := HG2.out.res.frozen 1; have z2 := HG2.out.res.frozen 2; have z3 := HG2.out.res.frozen 3; simp only [List.getElem?_toArray, List.getElem?_cons_zero, List.getElem?_cons_succ] at c0 c1 c2 c3 r0 r1 r2 r3; clear hb))
          | (go_at_call 51; go_must ((with_reducible refine (HX0.out _ (HG2.out).sc).mono ?_); rintro e w3 ⟨rfl, hs, hg⟩; clear c0 c1 c2 c3 f1 f2 f3 r0 r1 r2 r3 z0 z1 z2 z3; have HG3 := Lib.hid ((HG2.out).call hs hg); have c0 := HG3.out.box.cell 0; have c1 := HG3.out.box.cell 1; have c2 := HG3.out.box.cell 2; have c3 := HG3.out.box.cell 3; have f1 := HG3.out.box.frozen 1; have f2 := HG3.out.box.frozen 2; have f3 := HG3.out.box.frozen 3; have r0 := HG3.out.res.cell 0; have r1 := HG3.out.res.cell 1; have r2 := HG3.out.res.cell 2; have r3 := HG3.out.res.cell 3; have z0 := HG3.out.res.frozen 0; have z1 := HG3.out.res.frozen 1; have z2 := HG3.out.res.frozen 2; have z3 := HG3.out.res.frozen 3; simp only [List.getElem?_toArray, List.getElem?_cons_zero, List.getElem?_cons_succ] at c0 c1 c2 c3 r0 r1 r2 r3; clear hs hg)))
        obtain ⟨q, hf⟩ := GSt.fin (HG3.out) (.int .u8 c.toNat) (.int .u64 0) (.int .u64 0) (.slice none 0 0) _ rfl
        have q0 := q.cell 0
        have q1 := q.cell 1
        have q2 := q.cell 2
        have q3 := q.cell 3
        simp only [List.getElem?_toArray, List.getElem?_cons_zero, List.getElem?_cons_succ] at q0 q1 q2 q3
        exact bodyPost_ret (v := insV (⟨c, 0, 0, []⟩ : I) none 0) (by simp [results, Tryd.results75, go_sem, q0, q1, q2, q3]) rfl (gets_end (i := (⟨c, 0, 0, []⟩ : I)) (HG3.out) hf rfl rfl)
    have d9 : ((m : Int) == 9) = false := by simp; omega
    by_cases m10 : m = 10
    · subst m10
      rw [show bodyR 10 c l k1 = (intR l k1 32).bind fun v k1 => .ok ⟨c, v % 4294967296, 0, []⟩ k1 from by unfold bodyR; rw [if_neg (by omega), if_neg (by omega), if_neg (by omega), if_neg (by omega), if_neg (by omega), if_neg (by omega), if_pos rfl]]
      have hX0 := fun W (h : Sc W p l k1) => int_any2 h 32
      cases hr0 : intR l k1 32 with
      | err ec ea =>
        rw [Res.bind_err]
        show Calls _ _ _ _ (fun e w' => e = .panicked (stopP ec ea) ∧ w.grownBy w' (some p))
        have HX0 := Lib.hid (fun W (h : Sc W p l k1) => show Calls Tryd.prog 99 #[.pointer (some ⟨p, 0, none⟩), .int .i64 32] W (Did encS64 p l W (.err ec ea)) from by have := hX0 W h; rw [hr0] at this; exact this)
        clear hX0 hr0
        go_enter Tryd.func75, Tryd.ntmps75
        go_wp2_with (first
          | (go_at_call 95; go_must ((with_reducible refine HOP.out.mono ?_); rintro e w1 ⟨rfl, hs, hg⟩; have HG1 := Lib.hid (HST.out w1 hs hg); have hh := HG1.out.h2; have n1 : ¬ w1.heap.size = w.heap.size := (by omega); have n2 : ¬ w.heap.size = w1.heap.size := (by omega); clear hs hg hh))
          | (go_at_call 72; go_must ((with_reducible refine (HI.out _ HG1.out.tb.tabs).mono ?_); rintro e w2 ⟨rfl, hb⟩; unfold infV; have HG2 := Lib.hid (HG1.out.below hb); have c0 := HG2.out.box.cell 0; have c1 := HG2.out.box.cell 1; have c2 := HG2.out.box.cell 2; have c3 := HG2.out.box.cell 3; have f1 := HG2.out.box.frozen 1; have f2 := HG2.out.box.frozen 2; have f3 := HG2.out.box.frozen 3; have r0 := HG2.out.res.cell 0; have r1 := HG2.out.res.cell 1; have r2 := HG2.out.res.cell 2; have r3 := HG2.out.res.cell 3; have z0 := HG2.out.res.frozen 0; have z1 := HG2.out.res.frozen 1; have z2 := HG2.out.res.frozen 2; have z3 := HG2.out.res.frozen 3; simp only [List.getElem?_toArray, List.getElem?_cons_zero, List.getElem?_cons_succ] at c0 c1 c2 c3 r0 r1 r2 r3; clear hb))
          | (go_at_call 99; go_must ((with_reducible refine (HX0.out _ (HG2.out).sc).mono ?_); rintro e w3 ⟨rfl, hg⟩; have HGE := Lib.hid hg; clear hg)))
        exact ⟨rfl, rfl, gb_trans (HG2.out).gr HGE.out⟩
      | ok v0 k2 =>
        rw [Res.bind_ok]
        have HX0 := Lib.hid (fun W (h : Sc W p l k1) => show Calls Tryd.prog 99 #[.pointer (some ⟨p, 0, none⟩), .int .i64 32] W (Did encS64 p l W (.ok v0 k2)) from by have := hX0 W h; rw [hr0] at this; exact this)
        clear hX0 hr0
        obtain ⟨x, hx⟩ : ∃ x, x = v0 % 4294967296 := ⟨_, rfl⟩
        rw [← hx]
        have hw : IntKind.u32.wrap v0 = x := by rw [hx]; simp [IntKind.wrap, IntKind.bits, IntKind.signed]
        have hw2 : IntKind.u64.wrap x = x := by rw [hx]; simp [IntKind.wrap, IntKind.bits, IntKind.signed]; omega
        clear hx
        go_enter Tryd.func75, Tryd.ntmps75
        go_wp2_with (first
          | (go_at_call 95; go_must ((with_reducible refine HOP.out.mono ?_); rintro e w1 ⟨rfl, hs, hg⟩; have HG1 := Lib.hid (HST.out w1 hs hg); have hh := HG1.out.h2; have n1 : ¬ w1.heap.size = w.heap.size := (by omega); have n2 : ¬ w.heap.size = w1.heap.size := (by omega); clear hs hg hh))
          | (go_at_call 72; go_must ((with_reducible refine (HI.out _ HG1.out.tb.tabs).mono ?_); rintro e w2 ⟨rfl, hb⟩; unfold infV; have HG2 := Lib.hid (HG1.out.below hb); have c0 := HG2.out.box.cell 0; have c1 := HG2.out.box.cell 1; have c2 := HG2.out.box.cell 2; have c3 := HG2.out.box.cell 3; have f1 := HG2.out.box.frozen 1; have f2 := HG2.out.box.frozen 2; have f3 := HG2.out.box.frozen 3; have r0 := HG2.out.res.cell 0; have r1 := HG2.out.res.cell 1; have r2 := HG2.out.res.cell 2; have r3 := HG2.out.res.cell 3; have z0 := HG2.out.res.frozen 0; have z1 := HG2.out.res.frozen 1; have z2 := HG2.out.res.frozen 2; have z3 := HG2.out.res.frozen 3; simp only [List.getElem?_toArray, List.getElem?_cons_zero, List.getElem?_cons_succ] at c0 c1 c2 c3 r0 r1 r2 r3; clear hb))
          | (go_at_call 99; go_must ((with_reducible refine (HX0.out _ (HG2.out).sc).mono ?_); rintro e w3 ⟨rfl, hs, hg⟩; clear c0 c1 c2 c3 f1 f2 f3 r0 r1 r2 r3 z0 z1 z2 z3; have HG3 := Lib.hid ((HG2.out).call hs hg); have c0 := HG3.out.box.cell 0; have c1 := HG3.out.box.cell 1; have c2 := HG3.out.box.cell 2; have c3 := HG3.out.box.cell 3; have f1 := HG3.out.box.frozen 1; have f2 := HG3.out.box.frozen 2; have f3 := HG3.out.box.frozen 3; have r0 := HG3.out.res.cell 0; have r1 := HG3.out.res.cell 1; have r2 := HG3.out.res.cell 2; have r3 := HG3.out.res.cell 3; have z0 := HG3.out.res.frozen 0; have z1 := HG3.out.res.frozen 1; have z2 := HG3.out.res.frozen 2; have z3 := HG3.out.res.frozen 3; simp only [List.getElem?_toArray, List.getElem?_cons_zero, List.getElem?_cons_succ] at c0 c1 c2 c3 r0 r1 r2 r3; clear hs hg)))
        obtain ⟨q, hf⟩ := GSt.fin ((HG3.out.put 1 (.int .u64 x) rfl)) (.int .u8 c.toNat) (.int .u64 x) (.int .u64 0) (.slice none 0 0) _ rfl
        have q0 := q.cell 0
        have q1 := q.cell 1
        have q2 := q.cell 2
        have q3 := q.cell 3
        simp only [List.getElem?_toArray, List.getElem?_cons_zero, List.getElem?_cons_succ] at q0 q1 q2 q3
        exact bodyPost_ret (v := insV (⟨c, x, 0, []⟩ : I) none 0) (by simp [results, Tryd.results75, go_sem, q0, q1, q2, q3]) rfl (gets_end (i := (⟨c, x, 0, []⟩ : I)) ((HG3.out.put 1 (.int .u64 x) rfl)) hf rfl rfl)
    have d10 : ((m : Int) == 10) = false := by simp; omega
    by_cases m11 : m = 11
    · subst m11
      rw [show bodyR 11 c l k1 = (intR l k1 64).bind fun v k1 => .ok ⟨c, v % 18446744073709551616, 0, []⟩ k1 from by unfold bodyR; rw [if_neg (by omega), if_neg (by omega), if_neg (by omega), if_neg (by omega), if_neg (by omega), if_neg (by omega), if_neg (by omega), if_pos rfl]]
      have hX0 := fun W (h : Sc W p l k1) => int_any2 h 64
      cases hr0 : intR l k1 64 with
      | err ec ea =>
        rw [Res.bind_err]
        show Calls _ _ _ _ (fun e w' => e = .panicked (stopP ec ea) ∧ w.grownBy w' (some p))
        have HX0 := Lib.hid (fun W (h : Sc W p l k1) => show Calls Tryd.prog 99 #[.pointer (some ⟨p, 0, none⟩), .int .i64 64] W (Did encS64 p l W (.err ec ea)) from by have := hX0 W h; rw [hr0] at this; exact this)
        clear hX0 hr0
        go_enter Tryd.func75, Tryd.ntmps75
        go_wp2_with (first
          | (go_at_call 95; go_must ((with_reducible refine HOP.out.mono ?_); rintro e w1 ⟨rfl, hs, hg⟩; have HG1 := Lib.hid (HST.out w1 hs hg); have hh := HG1.out.h2; have n1 : ¬ w1.heap.size = w.heap.size := (by omega); have n2 : ¬ w.heap.size = w1.heap.size := (by omega); clear hs hg hh))
          | (go_at_call 72; go_must ((with_reducible refine (HI.out _ HG1.out.tb.tabs).mono ?_); rintro e w2 ⟨rfl, hb⟩; unfold infV; have HG2 := Lib.hid (HG1.out.below hb); have c0 := HG2.out.box.cell 0; have c1 := HG2.out.box.cell 1; have c2 := HG2.out.box.cell 2; have c3 := HG2.out.box.cell 3; have f1 := HG2.out.box.frozen 1; have f2 := HG2.out.box.frozen 2; have f3 := HG2.out.box.frozen 3; have r0 := HG2.out.res.cell 0; have r1 := HG2.out.res.cell 1; have r2 := HG2.out.res.cell 2; have r3 := HG2.out.res.cell 3; have z0 := HG2.out.res.frozen 0; have z1 := HG2.out.res.frozen 1; have z2 := HG2.out.res.frozen 2; have z3 := HG2.out.res.frozen 3; simp only [List.getElem?_toArray, List.getElem?_cons_zero, List.getElem?_cons_succ] at c0 c1 c2 c3 r0 r1 r2 r3; clear hb))
          | (go_at_call 99; go_must ((with_reducible refine (HX0.out _ (HG2.out).sc).mono ?_); rintro e w3 ⟨rfl, hg⟩; have HGE := Lib.hid hg; clear hg)))
        exact ⟨rfl, rfl, gb_trans (HG2.out).gr HGE.out⟩
      | ok v0 k2 =>
        rw [Res.bind_ok]
        have HX0 := Lib.hid (fun W (h : Sc W p l k1) => show Calls Tryd.prog 99 #[.pointer (some ⟨p, 0, none⟩), .int .i64 64] W (Did encS64 p l W (.ok v0 k2)) from by have := hX0 W h; rw [hr0] at this; exact this)
        clear hX0 hr0
        obtain ⟨x, hx⟩ : ∃ x, x = v0 % 18446744073709551616 := ⟨_, rfl⟩
        rw [← hx]
        have hw : IntKind.u64.wrap v0 = x := by rw [hx]; simp [IntKind.wrap, IntKind.bits, IntKind.signed]
        clear hx
        go_enter Tryd.func75, Tryd.ntmps75
        go_wp2_with (first
          | (go_at_call 95; go_must ((with_reducible refine HOP.out.mono ?_); rintro e w1 ⟨rfl, hs, hg⟩; have HG1 := Lib.hid (HST.out w1 hs hg); have hh := HG1.out.h2; have n1 : ¬ w1.heap.size = w.heap.size := (by omega); have n2 : ¬ w.heap.size = w1.heap.size := (by omega); clear hs hg hh))
          | (go_at_call 72; go_must ((with_reducible refine (HI.out _ HG1.out.tb.tabs).mono ?_); rintro e w2 ⟨rfl, hb⟩; unfold infV; have HG2 := Lib.hid (HG1.out.below hb); have c0 := HG2.out.box.cell 0; have c1 := HG2.out.box.cell 1; have c2 := HG2.out.box.cell 2; have c3 := HG2.out.box.cell 3; have f1 := HG2.out.box.frozen 1; have f2 := HG2.out.box.frozen 2; have f3 := HG2.out.box.frozen 3; have r0 := HG2.out.res.cell 0; have r1 := HG2.out.res.cell 1; have r2 := HG2.out.res.cell 2; have r3 := HG2.out.res.cell 3; have z0 := HG2.out.res.frozen 0; have z1 := HG2.out.res.frozen 1; have z2 := HG2.out.res.frozen 2; have z3 := HG2.out.res.frozen 3; simp only [List.getElem?_toArray, List.getElem?_cons_zero, List.getElem?_cons_succ] at c0 c1 c2 c3 r0 r1 r2 r3; clear hb))
          | (go_at_call 99; go_must ((with_reducible refine (HX0.out _ (HG2.out).sc).mono ?_); rintro e w3 ⟨rfl, hs, hg⟩; clear c0 c1 c2 c3 f1 f2 f3 r0 r1 r2 r3 z0 z1 z2 z3; have HG3 := Lib.hid ((HG2.out).call hs hg); have c0 := HG3.out.box.cell 0; have c1 := HG3.out.box.cell 1; have c2 := HG3.out.box.cell 2; have c3 := HG3.out.box.cell 3; have f1 := HG3.out.box.frozen 1; have f2 := HG3.out.box.frozen 2; have f3 := HG3.out.box.frozen 3; have r0 := HG3.out.res.cell 0; have r1 := HG3.out.res.cell 1; have r2 := HG3.out.res.cell 2; have r3 := HG3.out.res.cell 3; have z0 := HG3.out.res.frozen 0; have z1 := HG3.out.res.frozen 1; have z2 := HG3.out.res.frozen 2; have z3 := HG3.out.res.frozen 3; simp only [List.getElem?_toArray, List.getElem?_cons_zero, List.getElem?_cons_succ] at c0 c1 c2 c3 r0 r1 r2 r3; clear hs hg)))
        obtain ⟨q, hf⟩ := GSt.fin ((HG3.out.put 1 (.int .u64 x) rfl)) (.int .u8 c.toNat) (.int .u64 x) (.int .u64 0) (.slice none 0 0) _ rfl
        have q0 := q.cell 0
        have q1 := q.cell 1
        have q2 := q.cell 2
        have q3 := q.cell 3
        simp only [List.getElem?_toArray, List.getElem?_cons_zero, List.getElem?_cons_succ] at q0 q1 q2 q3
        exact bodyPost_ret (v := insV (⟨c, x, 0, []⟩ : I) none 0) (by simp [results, Tryd.results75, go_sem, q0, q1, q2, q3]) rfl (gets_end (i := (⟨c, x, 0, []⟩ : I)) ((HG3.out.put 1 (.int .u64 x) rfl)) hf rfl rfl)
    have d11 : ((m : Int) == 11) = false := by simp; omega
    rw [show bodyR m c l k1 = (indexR l k1).bind fun a k1 => .ok ⟨c, a, 0, []⟩ k1 from by unfold bodyR; rw [if_neg m0, if_neg m1, if_neg m3, if_neg m5, if_neg m8, if_neg m9, if_neg m10, if_neg m11]]
    have hX0 := fun W (h : Sc W p l k1) => getNumber_any h
    cases hr0 : indexR l k1 with
    | err ec ea =>
      rw [Res.bind_err]
      show Calls _ _ _ _ (fun e w' => e = .panicked (stopP ec ea) ∧ w.grownBy w' (some p))
      have HX0 := Lib.hid (fun W (h : Sc W p l k1) => show Calls Tryd.prog 98 #[.pointer (some ⟨p, 0, none⟩)] W (Did enc64 p l W (.err ec ea)) from by have := hX0 W h; rw [hr0] at this; exact this)
      clear hX0 hr0
      go_enter Tryd.func75, Tryd.ntmps75
      go_wp2_with (first
        | (go_at_call 95; go_must ((with_reducible refine HOP.out.mono ?_); rintro e w1 ⟨rfl, hs, hg⟩; have HG1 := Lib.hid (HST.out w1 hs hg); have hh := HG1.out.h2; have n1 : ¬ w1.heap.size = w.heap.size := (by omega); have n2 : ¬ w.heap.size = w1.heap.size := (by omega); clear hs hg hh))
        | (go_at_call 72; go_must ((with_reducible refine (HI.out _ HG1.out.tb.tabs).mono ?_); rintro e w2 ⟨rfl, hb⟩; unfold infV; have HG2 := Lib.hid (HG1.out.below hb); have c0 := HG2.out.box.cell 0; have c1 := HG2.out.box.cell 1; have c2 := HG2.out.box.cell 2; have c3 := HG2.out.box.cell 3; have f1 := HG2.out.box.frozen 1; have f2 := HG2.out.box.frozen 2; have f3 := HG2.out.box.frozen 3; have r0 := HG2.out.res.cell 0; have r1 := HG2.out.res.cell 1; have r2 := HG2.out.res.cell 2; have r3 := HG2.out.res.cell 3; have z0 := HG2.out.res.frozen 0; have z1 := HG2.out.res.frozen 1; have z2 := HG2.out.res.frozen 2; have z3 := HG2.out.res.frozen 3; simp only [List.getElem?_toArray, List.getElem?_cons_zero, List.getElem?_cons_succ] at c0 c1 c2 c3 r0 r1 r2 r3; clear hb))
        | (go_at_call 98; go_must ((with_reducible refine (HX0.out _ (HG2.out).sc).mono ?_); rintro e w3 ⟨rfl, hg⟩; have HGE := Lib.hid hg; clear hg)))
      exact ⟨rfl, rfl, gb_trans (HG2.out).gr HGE.out⟩
    | ok v0 k2 =>
      rw [Res.bind_ok]
      have HX0 := Lib.hid (fun W (h : Sc W p l k1) => show Calls Tryd.prog 98 #[.pointer (some ⟨p, 0, none⟩)] W (Did enc64 p l W (.ok v0 k2)) from by have := hX0 W h; rw [hr0] at this; exact this)
      clear hX0 hr0
      go_enter Tryd.func75, Tryd.ntmps75
      go_wp2_with (first
        | (go_at_call 95; go_must ((with_reducible refine HOP.out.mono ?_); rintro e w1 ⟨rfl, hs, hg⟩; have HG1 := Lib.hid (HST.out w1 hs hg); have hh := HG1.out.h2; have n1 : ¬ w1.heap.size = w.heap.size := (by omega); have n2 : ¬ w.heap.size = w1.heap.size := (by omega); clear hs hg hh))
        | (go_at_call 72; go_must ((with_reducible refine (HI.out _ HG1.out.tb.tabs).mono ?_); rintro e w2 ⟨rfl, hb⟩; unfold infV; have HG2 := Lib.hid (HG1.out.below hb); have c0 := HG2.out.box.cell 0; have c1 := HG2.out.box.cell 1; have c2 := HG2.out.box.cell 2; have c3 := HG2.out.box.cell 3; have f1 := HG2.out.box.frozen 1; have f2 := HG2.out.box.frozen 2; have f3 := HG2.out.box.frozen 3; have r0 := HG2.out.res.cell 0; have r1 := HG2.out.res.cell 1; have r2 := HG2.out.res.cell 2; have r3 := HG2.out.res.cell 3; have z0 := HG2.out.res.frozen 0; have z1 := HG2.out.res.frozen 1; have z2 := HG2.out.res.frozen 2; have z3 := HG2.out.res.frozen 3; simp only [List.getElem?_toArray, List.getElem?_cons_zero, List.getElem?_cons_succ] at c0 c1 c2 c3 r0 r1 r2 r3; clear hb))
        | (go_at_call 98; go_must ((with_reducible refine (HX0.out _ (HG2.out).sc).mono ?_); rintro e w3 ⟨rfl, hs, hg⟩; clear c0 c1 c2 c3 f1 f2 f3 r0 r1 r2 r3 z0 z1 z2 z3; have HG3 := Lib.hid ((HG2.out).call hs hg); have c0 := HG3.out.box.cell 0; have c1 := HG3.out.box.cell 1; have c2 := HG3.out.box.cell 2; have c3 := HG3.out.box.cell 3; have f1 := HG3.out.box.frozen 1; have f2 := HG3.out.box.frozen 2; have f3 := HG3.out.box.frozen 3; have r0 := HG3.out.res.cell 0; have r1 := HG3.out.res.cell 1; have r2 := HG3.out.res.cell 2; have r3 := HG3.out.res.cell 3; have z0 := HG3.out.res.frozen 0; have z1 := HG3.out.res.frozen 1; have z2 := HG3.out.res.frozen 2; have z3 := HG3.out.res.frozen 3; simp only [List.getElem?_toArray, List.getElem?_cons_zero, List.getElem?_cons_succ] at c0 c1 c2 c3 r0 r1 r2 r3; clear hs hg)))
      obtain ⟨q, hf⟩ := GSt.fin ((HG3.out.put 1 (.int .u64 v0) rfl)) (.int .u8 c.toNat) (.int .u64 v0) (.int .u64 0) (.slice none 0 0) _ rfl
      have q0 := q.cell 0
      have q1 := q.cell 1
      have q2 := q.cell 2
      have q3 := q.cell 3
      simp only [List.getElem?_toArray, List.getElem?_cons_zero, List.getElem?_cons_succ] at q0 q1 q2 q3
      exact bodyPost_ret (v := insV (⟨c, v0, 0, []⟩ : I) none 0) (by simp [results, Tryd.results75, go_sem, q0, q1, q2, q3]) rfl (gets_end (i := (⟨c, v0, 0, []⟩ : I)) ((HG3.out.put 1 (.int .u64 v0) rfl)) hf rfl rfl)
end Go.Proofs.YtebgmfjgapmpfabDoor
