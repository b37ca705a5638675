/- Bodies that lie somewhere; rows of bodies of the call's own, with their groups of locals and their instructions. -/
import Derived.Test.YtebgmfjgapmpfabDoorQi15
import Derived.OwnWalk
import Derived.Test.YtebgmfjgapmpfabDoorQi08
import Derived.Test.YtebgmfjgapmpfabDoorQi03
import Derived.Test.YtebgmfjgapmpfabDoorQi04
import Derived.Deep.DeepMust
import Derived.Test.YtebgmfjgapmpfabDoorQi16
import Derived.Test.YtebgmfjgapmpfabDoorQi10
import Derived.Deep.LoopGhost
import Derived.RegionTactic
import Derived.Test.YtebgmfjgapmpfabDoorQi13
import Derived.Test.YtebgmfjgapmpfabDoorQi14
import Derived.Deep.Fields
import Derived.ChangeSame
import Derived.ProofKit
import Derived.Test.YtebgmfjgapmpfabDoorQi01
import Derived.OpenShut
import Derived.ShutString
import Derived.ChangeOld
import Derived.Deep.Slices
import Derived.Lib.SmallJoins
namespace Go.Proofs.YtebgmfjgapmpfabDoor
open Go.RowKit
set_option linter.unusedVariables false
set_option maxRecDepth 100000

/-- Groups that were read: none, or the beginning of a block of their own. -/
def loL (x : Lo) : List Value := [.int .u32 x.n.toNat, .int .u8 x.t.toNat]
def LocT (W : World) (A : Option Addr) (ls : List Lo) : Prop := (A = none ∧ ls = []) ∨ ∃ g cur, A = some ⟨g, 0, none⟩ ∧ Whole W g 63 cur ∧ cur.toList.take (ls.length * 2) = ls.flatMap loL
theorem LocT.keep {W W' : World} {A : Option Addr} {ls : List Lo} {row : Option Nat} (h : LocT W A ls) (hg : W.grownBy W' row) (hq : ∀ a, A = some a → some a.block ≠ row) : LocT W' A ls := by
  rcases h with h | ⟨g, cur, rfl, h, ht⟩
  · exact .inl h
  · exact .inr ⟨g, cur, rfl, h.grown hg (hq _ rfl), ht⟩
theorem LocT.on {W W' : World} {A : Option Addr} {ls : List Lo} (h : LocT W A ls) (hb : Below W.heap.size W W') : LocT W' A ls := h.keep (gb_of_below none hb) (fun a _ => by simp)
theorem LocT.apart {W : World} {A : Option Addr} {ls : List Lo} (h : LocT W A ls) {q : Nat} {t : TypeId} {cs : Array Value} (hw : Whole W q t cs) (ht : t ≠ 63) : ∀ a, A = some a → some a.block ≠ some q := by
  rcases h with ⟨rfl, rfl⟩ | ⟨g, cur, rfl, h, _⟩
  · intro a e; cases e
  · intro a e
    injection e with e
    subst e
    simp only [ne_eq, Option.some.injEq]
    exact fun e => hw.apart h ht e.symm
theorem loc_own {W : World} {b : Nat} {e : TypeId} {s n : Nat} {v : Value} {xs : List Value} {A : Option Addr} {ls : List Lo} (hl : LocT W A ls) (h : W.ownsRow b e s v n xs) (ht : 63 ≠ e) : ∀ a, A = some a → some a.block ≠ v.ownBlock := by
  rcases hl with ⟨rfl, _⟩ | ⟨g, cur, rfl, hw, _⟩
  · intro a e; cases e
  · intro a e
    injection e with e
    subst e
    exact own_whole h hw ht
theorem flatLo_get : ∀ (l : List Lo) (j : Nat) (x : Lo) (u : Nat), l[j]? = some x → u < 2 → (l.flatMap loL)[j * 2 + u]? = (loL x)[u]?
  | [], j, x, u, h, _ => by cases h
  | y :: l, 0, x, u, h, hu => by
    injection h with h
    subst h
    rw [List.flatMap_cons, Nat.zero_mul, Nat.zero_add, List.getElem?_append_left (by show u < 2; exact hu)]
  | y :: l, j + 1, x, u, h, hu => by
    rw [List.flatMap_cons, List.getElem?_append_right (by show 2 ≤ _; omega)]
    have e : (j + 1) * 2 + u - (loL y).length = j * 2 + u := by show (j + 1) * 2 + u - 2 = _; omega
    rw [e]
    exact flatLo_get l j x u h hu
theorem LocT.los {W : World} {A : Option Addr} {ls : List Lo} (h : LocT W A ls) : Los W A ls := fun j x hx => by
  have hj := (List.getElem?_eq_some_iff.1 hx).1
  rcases h with ⟨_, rfl⟩ | ⟨g, cur, rfl, h, ht⟩
  · cases hx
  · have key : ∀ u, u < 2 → W.cell? ⟨g, 0 + j * 2 + u, none⟩ = (loL x)[u]? := fun u hu => by
      rw [h.cell, ← flatLo_get ls j x u hx hu, ← ht, List.getElem?_take, if_pos (by omega)]
      simp
    exact ⟨g, 0, rfl, h.lt, key 0 (by omega), key 1 (by omega)⟩
/-- A body, where its groups lie, where its instructions lie. -/
abbrev SlotBd := Bd × (Option Addr × Nat) × (Option Addr × Nat)
abbrev cC (x : SlotBd) : Array Value := bdC x.1 x.2.1.1 x.2.1.2 x.2.2.1 x.2.2.2
abbrev cV (x : SlotBd) : Value := .agg (cC x)
def cL (x : SlotBd) : List Value := (cC x).toList
theorem infoBd : (Tryd.prog.info? 60).map (fun i => (i.zero, i.size, i.bytes)) = some (some (.agg bdZ), 2, 48) := by kernel_rfl
/-- What a body that was read holds: its groups, its instructions with their labels, all behind a bound. -/
def HasBd (W : World) (base : Nat) (x : SlotBd) : Prop := (LocT W x.2.1.1 x.1.ls ∧ ∀ a, x.2.1.1 = some a → base ≤ a.block) ∧ ∃ rows, RowIL W base (.slice x.2.2.1 x.1.b.length x.2.2.2) rows ∧ rows.map (·.1) = x.1.b
theorem HasBd.past {W W' : World} {base b : Nat} {x : SlotBd} (h : HasBd W base x) (hg : W.grownBy W' (some b)) (hb : b < base) : HasBd W' base x := by
  obtain ⟨⟨h1, h2⟩, rows, h3, h4⟩ := h
  exact ⟨⟨h1.keep hg (fun a ha => by have := h2 a ha; simp only [ne_eq, Option.some.injEq]; omega), h2⟩, rows, h3.past hg hb, h4⟩
theorem HasBd.later {W W' : World} {base : Nat} {x : SlotBd} (h : HasBd W base x) (hb : Below W.heap.size W W') : HasBd W' base x := by
  obtain ⟨⟨h1, h2⟩, rows, h3, h4⟩ := h
  exact ⟨⟨h1.on hb, h2⟩, rows, h3.later hb, h4⟩
theorem HasBd.mono {W : World} {base base' : Nat} {x : SlotBd} (h : HasBd W base x) (hb : base' ≤ base) : HasBd W base' x := by
  obtain ⟨⟨h1, h2⟩, rows, h3, h4⟩ := h
  exact ⟨⟨h1, fun a ha => Nat.le_trans hb (h2 a ha)⟩, rows, h3.mono hb, h4⟩
theorem HasBd.beside {W W' : World} {base b n : Nat} {u : Value} {xs : List Value} {x : SlotBd} (h : HasBd W base x) (hr : W.ownsRow b 60 2 u n xs) (hg : W.grownBy W' u.ownBlock) : HasBd W' base x := by
  obtain ⟨⟨h1, h2⟩, rows, h3, h4⟩ := h
  exact ⟨⟨h1.keep hg (loc_own h1 hr (by decide)), h2⟩, rows, h3.beside hr hg (by decide) (by decide), h4⟩
/-- A row of bodies of the call's own; what each holds lies behind the row's bound. -/
structure RowBd (W : World) (base : Nat) (v : Value) (rows : List SlotBd) : Prop where
  own : W.ownsRow base 60 2 v rows.length (rows.flatMap cL)
  has : ∀ x ∈ rows, HasBd W base x
theorem RowBd.nil (W : World) (base : Nat) : RowBd W base (.slice none 0 0) [] := ⟨World.ownsRow_nil W base _ 2, fun x hx => by cases hx⟩
theorem RowBd.slice {W : World} {base : Nat} {v : Value} {rows : List SlotBd} (h : RowBd W base v rows) : ∃ A c, v = .slice A rows.length c := by
  rcases h.own.2 with ⟨rfl, h0⟩ | ⟨g, cap, cur, rfl, _⟩
  · exact ⟨none, 0, by rw [h0]⟩
  · exact ⟨_, cap, rfl⟩
theorem RowBd.lt {W : World} {base : Nat} {v : Value} {rows : List SlotBd} (h : RowBd W base v rows) : ∀ k, v.ownBlock = some k → base ≤ k ∧ k < W.heap.size := World.ownsRow.lt h.own
theorem RowBd.past {W W' : World} {base b : Nat} {v : Value} {rows : List SlotBd} (h : RowBd W base v rows) (hg : W.grownBy W' (some b)) (hb : b < base) : RowBd W' base v rows :=
  ⟨World.ownsRow.kept h.own hg (by
    cases hv : v.ownBlock with
    | none => exact .inl rfl
    | some k => exact .inr (by have := (World.ownsRow.lt h.own k hv).1; simp only [ne_eq, Option.some.injEq]; omega)),
   fun x hx => (h.has x hx).past hg hb⟩
theorem RowBd.later {W W' : World} {base : Nat} {v : Value} {rows : List SlotBd} (h : RowBd W base v rows) (hb : Below W.heap.size W W') : RowBd W' base v rows :=
  ⟨World.ownsRow.kept h.own (gb_of_below none hb) (by cases v.ownBlock with
    | none => exact .inl rfl
    | some k => exact .inr (by simp)), fun x hx => (h.has x hx).later hb⟩
theorem RowBd.alloc {W : World} {base : Nat} {v : Value} {rows : List SlotBd} (h : RowBd W base v rows) (o : Obj) : RowBd (W.alloc o) base v rows := h.later (below_box W o)
theorem RowBd.mono {W : World} {base base' : Nat} {v : Value} {rows : List SlotBd} (h : RowBd W base v rows) (hb : base' ≤ base) : RowBd W base' v rows := by
  obtain ⟨⟨h1, h2⟩, h3⟩ := h
  refine ⟨⟨h1, ?_⟩, fun x hx => (h3 x hx).mono hb⟩
  rcases h2 with h2 | ⟨g, cap, cur, e, hg, r⟩
  · exact .inl h2
  · exact .inr ⟨g, cap, cur, e, Nat.le_trans hb hg, r⟩
/-- The slice at A reads as these bodies, and what each holds lies. -/
def Bds (w : World) (A : Option Addr) (l : List SlotBd) : Prop :=
  ∀ j x, l[j]? = some x → (∃ b off, A = some ⟨b, off, none⟩ ∧ b < w.heap.size ∧ ∀ u, u < 2 → w.cell? ⟨b, off + j * 2 + u, none⟩ = (cL x)[u]?) ∧ Los w x.2.1.1 x.1.ls ∧ Ins w x.2.2.1 x.1.b
theorem Bds.below {w w' : World} {A : Option Addr} {l : List SlotBd} (h : Bds w A l) (hb : Below w.heap.size w w') : Bds w' A l := fun j x hx => by
  obtain ⟨⟨b, off, e, h1, h2⟩, h3, h4⟩ := h j x hx
  exact ⟨⟨b, off, e, Nat.lt_of_lt_of_le h1 hb.size, fun u hu => (hb.cell (p := ⟨b, _, none⟩) h1).trans (h2 u hu)⟩, h3.below hb, h4.below hb⟩
/-- The two cells of one of them, as a walk writes them. -/
abbrev TwoAtB (w : World) (b : Nat) (o : Nat) (x : SlotBd) : Prop := w.cell? ⟨b, o, none⟩ = some (.slice x.2.1.1 x.1.ls.length x.2.1.2) ∧ w.cell? ⟨b, o + 1, none⟩ = some (.slice x.2.2.1 x.1.b.length x.2.2.2)
theorem Bds.two {w : World} {A : Option Addr} {l : List SlotBd} (h : Bds w A l) {k : Nat} {x : SlotBd} (hx : l[k]? = some x) : ∃ b off, A = some ⟨b, off, none⟩ ∧ b < w.heap.size ∧ TwoAtB w b (off + k * 2) x := by
  obtain ⟨⟨b, off, e, h1, h2⟩, _⟩ := h k x hx
  exact ⟨b, off, e, h1, h2 0 (by omega), h2 1 (by omega)⟩
theorem flatBd_get : ∀ (l : List SlotBd) (j : Nat) (x : SlotBd) (u : Nat), l[j]? = some x → u < 2 → (l.flatMap cL)[j * 2 + u]? = (cL x)[u]?
  | [], j, x, u, h, _ => by cases h
  | y :: l, 0, x, u, h, hu => by
    injection h with h
    subst h
    rw [List.flatMap_cons, Nat.zero_mul, Nat.zero_add, List.getElem?_append_left (by show u < 2; exact hu)]
  | y :: l, j + 1, x, u, h, hu => by
    rw [List.flatMap_cons, List.getElem?_append_right (by show 2 ≤ _; omega)]
    have e : (j + 1) * 2 + u - (cL y).length = j * 2 + u := by show (j + 1) * 2 + u - 2 = _; omega
    rw [e]
    exact flatBd_get l j x u h hu
theorem HasBd.ins {W : World} {base : Nat} {x : SlotBd} (h : HasBd W base x) : Los W x.2.1.1 x.1.ls ∧ Ins W x.2.2.1 x.1.b := by
  obtain ⟨⟨h1, _⟩, rows, h3, h4⟩ := h
  refine ⟨h1.los, ?_⟩
  rw [← h4]
  exact h3.insF.ins
/-- What a row of bodies reads as. -/
theorem RowBd.bds {W : World} {base : Nat} {A : Option Addr} {n c : Nat} {rows : List SlotBd} (h : RowBd W base (.slice A n c) rows) : Bds W A rows := fun j x hx => by
  have hj := (List.getElem?_eq_some_iff.1 hx).1
  refine ⟨?_, (h.has x (List.mem_of_getElem? hx)).ins⟩
  rcases h.own.2 with ⟨_, h0⟩ | ⟨g, cap, cur, e, _, hg, _, _, _, ht⟩
  · omega
  · injection e with e1 e2 e3
    exact ⟨g, 0, e1, (Array.getElem?_eq_some_iff.1 hg).1, fun u hu => by
      rw [cell_of_row W g (0 + j * 2 + u) cur _ _ hg, ← flatBd_get rows j x u hx hu, ← ht, List.getElem?_take, if_pos (by omega)]
      simp⟩
end Go.Proofs.YtebgmfjgapmpfabDoor

/- wire.Part, wire.Whole of bytes that are there: a part that a closure with one box of its own reads to its end. -/
namespace Go.Proofs.YtebgmfjgapmpfabDoor
open Go.RowKit
set_option linter.unusedVariables false
set_option maxRecDepth 100000

/-- Two blocks alone may have turned. -/
structure Gb2 (w w' : World) (a b : Nat) : Prop where
  os : w'.os = w.os
  tape : w'.tape = w.tape
  output : w'.output = w.output
  size : w.heap.size ≤ w'.heap.size
  block : ∀ k, k < w.heap.size → k ≠ a → k ≠ b → w'.heap[k]? = w.heap[k]?
section
variable {w w1 w2 w' : World} {a b p q X : Nat}
theorem Gb2.refl (w : World) (a b : Nat) : Gb2 w w a b := ⟨rfl, rfl, rfl, Nat.le_refl _, fun _ _ _ _ => rfl⟩
theorem Gb2.trans (h : Gb2 w w1 a b) (k : Gb2 w1 w2 a b) : Gb2 w w2 a b :=
  ⟨k.os.trans h.os, k.tape.trans h.tape, k.output.trans h.output, Nat.le_trans h.size k.size, fun i hi h1 h2 => (k.block i (Nat.lt_of_lt_of_le hi h.size) h1 h2).trans (h.block i hi h1 h2)⟩
theorem Gb2.left (h : w.grownBy w' (some a)) : Gb2 w w' a b := ⟨h.os, h.tape, h.output, h.size, fun i hi h1 _ => h.block i hi (by simp only [ne_eq, Option.some.injEq]; exact h1)⟩
theorem Gb2.right (h : w.grownBy w' (some b)) : Gb2 w w' a b := ⟨h.os, h.tape, h.output, h.size, fun i hi _ h2 => h.block i hi (by simp only [ne_eq, Option.some.injEq]; exact h2)⟩
theorem Gb2.of_below (h : Below w.heap.size w w') : Gb2 w w' a b := .left (gb_of_below _ h)
/-- Seen from before one of the two was made. -/
theorem Gb2.before (h : Gb2 w w1 p X) (k : Gb2 w1 w2 q X) (hq : w.heap.size ≤ q) : Gb2 w w2 p X :=
  ⟨k.os.trans h.os, k.tape.trans h.tape, k.output.trans h.output, Nat.le_trans h.size k.size, fun i hi h1 h2 => (k.block i (Nat.lt_of_lt_of_le hi h.size) (by omega) h2).trans (h.block i hi h1 h2)⟩
theorem Gb2.new (h : Gb2 w w1 p X) (k : w1.grownBy w2 (some b)) (hb : w.heap.size ≤ b) : Gb2 w w2 p X :=
  ⟨k.os.trans h.os, k.tape.trans h.tape, k.output.trans h.output, Nat.le_trans h.size k.size, fun i hi h1 h2 => (k.block i (Nat.lt_of_lt_of_le hi h.size) (by simp only [ne_eq, Option.some.injEq]; omega)).trans (h.block i hi h1 h2)⟩
/-- .. both. -/
theorem Gb2.gb (h : Gb2 w w' a b) (hb : w.heap.size ≤ b) : w.grownBy w' (some a) :=
  ⟨h.os, h.tape, h.output, h.size, fun i hi h1 => h.block i hi (fun e => h1 (by rw [e])) (by omega)⟩
theorem Gb2.whole {g : Nat} {t : TypeId} {cs : Array Value} (h : Gb2 w w' a b) (hw : Whole w g t cs) (h1 : g ≠ a) (h2 : g ≠ b) : Whole w' g t cs := (h.block g hw.lt h1 h2).trans hw
theorem Gb2.sc {l : List UInt8} {k : Nat} (hg : Gb2 w w' a b) (h : Sc w p l k) (h1 : p < a) (h2 : p < b) : Sc w' p l k := by
  have hlt := h.lt
  obtain ⟨A, cap, h3, h4, h5⟩ := h
  refine ⟨A, cap, hg.whole h3 (by omega) (by omega), fun i v hv => ?_, h5⟩
  obtain ⟨c, off, e, h6, h7⟩ := h4 i v hv
  exact ⟨c, off, e, h6, (World.cell?_of_block (a := ⟨c, _, none⟩) (hg.block c (by omega) (by omega) (by omega))).trans h7⟩
/-- A block that holds no byte turns: what a scanner reads stays. -/
theorem Sc.box {l : List UInt8} {k : Nat} {t : TypeId} {cs : Array Value} (h : Sc w q l k) (hX : Whole w X t cs) (hne : X ≠ q) (hno : ∀ (i : Nat) (n : Int), cs[i]? ≠ some (.int .u8 n)) (hg : w.grownBy w' (some X)) : Sc w' q l k := by
  have hlt := h.lt
  obtain ⟨A, cap, h3, h4, h5⟩ := h
  refine ⟨A, cap, h3.grown hg (by simp only [ne_eq, Option.some.injEq]; omega), fun i v hv => ?_, h5⟩
  obtain ⟨c, off, e, h6, h7⟩ := h4 i v hv
  have hcX : c ≠ X := by
    rintro rfl
    rw [hX.cell] at h7
    have hm := List.mem_of_getElem? hv
    unfold cells at hm
    obtain ⟨n, _, rfl⟩ := List.mem_map.1 hm
    exact hno _ _ h7
  exact ⟨c, off, e, h6, (World.cell?_of_block (a := ⟨c, _, none⟩) (hg.block c (by omega) (by simp only [ne_eq, Option.some.injEq]; exact hcX))).trans h7⟩
end

/-- What Part leaves behind. -/
def Parted (p : Nat) (l : List UInt8) (n k1 : Nat) (w : World) (e : Ending) (w' : World) : Prop :=
  ∃ q, e = .returned (.tuple #[.pointer (some ⟨q, 0, none⟩), .int .i64 k1]) ∧ w.heap.size ≤ q ∧ Sc w' q ((l.drop k1).take n) 0 ∧ Sc w' p l (k1 + n) ∧ w.grownBy w' (some p)
set_option maxHeartbeats 800000 in
theorem part_w {w : World} {p : Nat} {l : List UInt8} {k n k1 : Nat} (h : Sc w p l k) (hi : indexR l k = .ok (n : Int) k1) (hm : k1 + n ≤ l.length) :
    Calls Tryd.prog 31 #[.pointer (some ⟨p, 0, none⟩)] w (Parted p l n k1 w) := by
  have hN := index_scan h
  have hle := h.le.2
  rw [hi] at hN
  have HN := Lib.hid hN
  obtain ⟨hk, v0, v1⟩ := uintR_ok (show uintR l k 32 = .ok (n : Int) k1 from hi)
  have v2 : (n : Int) < 4294967296 := v1
  have w1 : IntKind.u64.wrap (n : Int) = n := by simp [IntKind.wrap, IntKind.bits, IntKind.signed]; omega
  have w2 : IntKind.u64.wrap ((l.length : Int) - k1) = (l.length : Int) - k1 := by simp [IntKind.wrap, IntKind.bits, IntKind.signed]; omega
  have w3 : IntKind.i64.wrap (n : Int) = n := by rw [IntKind.wrap_i64]; omega
  have d1 : decide ((n : Int) ≤ (l.length : Int) - k1) = true := by simp; omega
  have d2 : (n : Int) ≤ (l.length : Int) - k1 := by omega
  have HSu := Lib.hid (fun (W : World) (hs : Sc W p l k1) => sub_ok hs n hm)
  clear hN hi h v0 v1 hm
  go_enter Tryd.func31, Tryd.ntmps31
  go_wp2_with (first
    | (go_at_call 53; go_must ((with_reducible refine HN.out.mono ?_); rintro e w1 ⟨rfl, hs, hg⟩; have HS := Lib.hid hs; have HG := Lib.hid hg; clear hs hg))
    | (go_at_call 54; go_must ((with_reducible refine (at_any HS.out).mono ?_); rintro e w2 ⟨rfl, rfl⟩))
    | (go_at_call 20; go_must ((with_reducible refine (left_any HS.out).mono ?_); rintro e w2 ⟨rfl, m, rfl⟩))
    | (go_at_call 55; go_must ((with_reducible refine (unlessT _ _ _).mono ?_); rintro e w' ⟨rfl, rfl⟩))
    | (go_at_call 56; go_must ((with_reducible refine (HSu.out _ (HS.out.drewN m)).mono ?_); rintro e w3 ⟨q, rfl, hq, hs1, hs2, hg2⟩; have HQ := Lib.hid hq; have HS1 := Lib.hid hs1; have HS2 := Lib.hid hs2; have HG2 := Lib.hid (gb_trans (gb_drewN HG.out m) hg2); clear hq hs1 hs2 hg2)))
  go_ret2
  exact ⟨q, rfl, Nat.le_trans HG.out.size HQ.out, HS1.out, HS2.out, HG2.out⟩

/-- What the closure of a Whole leaves behind: T, of a world that was there ahead of it. -/
def WRead (T : Nat → World → Prop) (q X : Nat) (part : List UInt8) (w : World) (e : Ending) (w' : World) : Prop :=
  e = .returned (.tuple #[]) ∧ T w.heap.size w' ∧ Sc w' q part part.length ∧ Gb2 w w' q X
end Go.Proofs.YtebgmfjgapmpfabDoor

/- wire.Part, bodies.getLocals, whole, Get: of bytes that were written. -/
namespace Go.Proofs.YtebgmfjgapmpfabDoor
open Go.RowKit
set_option linter.unusedVariables false
set_option maxRecDepth 100000

/-- A row of groups of the call's own. -/
abbrev RowLo (W : World) (base : Nat) (v : Value) (rows : List Lo) : Prop := W.ownsRow base 63 2 v rows.length (rows.flatMap loL)
theorem RowLo.past {W W' : World} {base b : Nat} {v : Value} {rows : List Lo} (h : RowLo W base v rows) (hg : W.grownBy W' (some b)) (hb : b < base) : RowLo W' base v rows :=
  World.ownsRow.kept h hg (by
    cases hv : v.ownBlock with
    | none => exact .inl rfl
    | some k => exact .inr (by have := (World.ownsRow.lt h k hv).1; simp only [ne_eq, Option.some.injEq]; omega))
theorem RowLo.later {W W' : World} {base : Nat} {v : Value} {rows : List Lo} (h : RowLo W base v rows) (hb : Below W.heap.size W W') : RowLo W' base v rows :=
  World.ownsRow.kept h (gb_of_below none hb) (by cases v.ownBlock with
    | none => exact .inl rfl
    | some k => exact .inr (by simp))
theorem infoLo : (Tryd.prog.info? 63).map (fun i => (i.zero, i.size, i.bytes)) = some (some (.agg #[.int .u32 0, .int .u8 0]), 2, 8) := by kernel_rfl
theorem rowLo_new {w : World} {ops : Array Oper} {rest : List Oper} {o : Oper} {a : Act} {Q : Exit → Act → World → Prop} (hgd : o.guard = none) (s x : Operand)
    (ho : o.op = .call { callee := .builtin .append, args := #[s, x], argTypes := #[24, 24] })
    (B : Nat) (v : Value) (l : List Lo) (hs : a.eval s = v) (hr : RowLo w B v l) (g : Nat) (r : Lo) (hx : a.eval x = .slice (some ⟨g, 0, none⟩) 1 1)
    (hg : Whole w g 63 (loL r).toArray) (hb : l.length ≤ 10000) (hB : B ≤ w.heap.size)
    (h : ∀ v' w', RowLo w' B v' (l ++ [r]) → w.grownBy w' v.ownBlock → wpList Tryd.prog ops Q rest (a.put o.dst v') w') : wpList Tryd.prog ops Q (o :: rest) a w := by
  obtain ⟨i0, hi0, hz0, hz1, hz2⟩ := info_parts infoLo
  refine wpList_append_own _ hgd s x _ ho B 63 i0 _ 2 8 Tryd.underlying24 hi0 hz0 hz1 hz2 rfl (by omega) v _ _ hs hr ⟨g, 0, none⟩ 1 1 (loL r) hx rfl ?_ ?_ (by unfold maxLen; omega) (by omega) hB (fun v' w' h2 h3 _ => h v' w' ?_ h3)
  · intro j u hu
    rw [Go.WideShapes.add_plain, Nat.zero_add, hg.cell, ← Array.getElem?_toList]
    exact hu
  · intro u hu
    unfold loL at hu
    simp only [List.mem_cons, List.not_mem_nil, or_false] at hu
    rcases hu with rfl | rfl <;> rfl
  · show w'.ownsRow B 63 2 v' (l ++ [r]).length ((l ++ [r]).flatMap loL)
    rw [List.length_append, List.flatMap_append]
    simpa using h2
/-- Once it is read. -/
theorem RowLo.loc {W : World} {base : Nat} {v : Value} {rows : List Lo} (h : RowLo W base v rows) : ∃ A c, v = .slice A rows.length c ∧ LocT W A rows ∧ ∀ a, A = some a → base ≤ a.block := by
  rcases h.2 with ⟨rfl, h0⟩ | ⟨g, cap, cur, rfl, hb, hg, _, _, _, ht⟩
  · have hr : rows = [] := List.eq_nil_of_length_eq_zero h0
    subst hr
    exact ⟨none, 0, rfl, .inl ⟨rfl, rfl⟩, fun a e => by cases e⟩
  · exact ⟨_, cap, rfl, .inr ⟨g, cur, rfl, hg, ht⟩, fun a e => by injection e with e; subst e; exact hb⟩
theorem losL_at {l : List Lo} {k : Nat} {x : Lo} (h : l[k]? = some x) : losL l = losL (l.take k) ++ ((lebL x.n.toNat ++ [x.t]) ++ losL (l.drop (k + 1))) := by
  conv => lhs; rw [← List.take_append_drop k l, lo_drop h]
  unfold losL
  rw [List.flatMap_append, List.flatMap_cons]
theorem tyGo_mem : ∀ {l : List Lo}, tyGo l = 0 → ∀ x ∈ l, valueZ x.t.toNat = 0
  | [], _, x, hx => by cases hx
  | y :: l, h, x, hx => by
    unfold tyGo at h
    by_cases e : valueZ y.t.toNat = 0
    · rw [if_neg (by omega)] at h
      rcases List.mem_cons.1 hx with rfl | hx
      · exact e
      · exact tyGo_mem h x hx
    · rw [if_pos e] at h; exact absurd h e
/-- What getLocals leaves behind. -/
def GotLo (p : Nat) (l : List UInt8) (ls : List Lo) (k : Nat) (w : World) (e : Ending) (w' : World) : Prop :=
  ∃ A c, e = .returned (.slice A ls.length c) ∧ (LocT w' A ls ∧ ∀ a, A = some a → w.heap.size ≤ a.block) ∧ Sc w' p l k ∧ w.grownBy w' (some p)
end Go.Proofs.YtebgmfjgapmpfabDoor

/- bodies.whole, Get, of bytes that were written. -/
namespace Go.Proofs.YtebgmfjgapmpfabDoor
open Go.RowKit
set_option linter.unusedVariables false
set_option maxRecDepth 100000

theorem Gb2.tbp {w w' : World} {a b p : Nat} (h : TbP p w) (hg : Gb2 w w' a b) (h1 : p ≤ a) (h2 : p ≤ b) : TbP p w' := by
  obtain ⟨W0, t1, t2, t3⟩ := h
  exact ⟨W0, t1, t2, hg.os.trans t3.os, hg.tape.trans t3.tape, hg.output.trans t3.output, Nat.le_trans t3.size hg.size, fun i hi => (hg.block i (Nat.lt_of_lt_of_le hi t3.size) (by omega) (by omega)).trans (t3.block i hi)⟩
/-- The numbers are what their kinds hold; neither instructions nor groups nor labels are many. -/
structure BdOk (x : Bd) : Prop where
  ok : ∀ i ∈ x.b, i.Ok ∧ i.l.length ≤ 50
  h50 : x.ls.length ≤ 50
  h60 : x.b.length ≤ 60
theorem BdOk.ok100 {x : Bd} (h : BdOk x) : ∀ i ∈ x.b, i.Ok ∧ i.l.length ≤ 100 := fun i hi => ⟨(h.ok i hi).1, by have := (h.ok i hi).2; omega⟩
theorem putL_len50 {i : I} (h : i.Ok) (hl : i.l.length ≤ 50) : (putL i).length ≤ 600 := by
  obtain ⟨a0, a1, b0, b1, hl0⟩ := h
  have k1 := lebL_len i.a (by omega)
  have k2 := lebL_len i.b (by omega)
  have k3 := lebL_len (i.l.length : Int) (by omega)
  have k4 := labsL_len i.l hl0
  have k5 := sebL_len (s32 i.a) (by unfold s32; omega) (by unfold s32; omega)
  have k6 := sebL_len (s64 i.a) (by unfold s64; omega) (by unfold s64; omega)
  have key : (immL i).length ≤ 550 := by
    unfold immL immB labL
    repeat' split
    all_goals (try simp only [List.length_append, List.length_cons, List.length_nil])
    all_goals omega
  unfold putL
  rw [List.length_cons]
  omega
theorem bodyL_len50 : ∀ l : List I, (∀ i ∈ l, i.Ok ∧ i.l.length ≤ 50) → (bodyL l).length ≤ l.length * 600
  | [], _ => by simp [bodyL]
  | i :: r, h => by
    have h1 := bodyL_len50 r (fun j hj => h j (List.mem_cons_of_mem _ hj))
    have h2 := putL_len50 (h i (by simp)).1 (h i (by simp)).2
    unfold bodyL at h1 ⊢
    rw [List.flatMap_cons, List.length_append, List.length_cons]
    omega
theorem codeL_len {x : Bd} (h : BdOk x) : (codeL x).length ≤ 36600 := by
  have h1 := lebL_len (x.ls.length : Int) (by have := h.h50; omega)
  have h2 := losL_len x.ls
  have h3 := bodyL_len50 x.b h.ok
  have h4 := h.h50
  have h5 := h.h60
  have hb : (bputL x).length ≤ 36570 := by unfold bputL; rw [List.length_append, List.length_append]; omega
  have h6 := lebL_len ((bputL x).length : Int) (by omega)
  unfold codeL
  rw [List.length_append]
  omega
theorem brZ_zero {x : Bd} (h : brZ x = 0) : (∃ q : Nat, locGo 0 x.ls = (q : Int)) ∧ tyGo x.ls = 0 ∧ shapeGo [] (opsOf x.b) = true ∧ ∀ i ∈ x.b, rightZ i = 0 := by
  have hb : bshZ x = 0 := by
    unfold brZ at h
    by_cases e : bshZ x = 0
    · exact e
    · rw [if_pos e] at h; exact absurd h e
  have hc := brZ_code hb
  rw [h] at hc
  unfold bshZ at hb
  by_cases h1 : locGo 0 x.ls < 0
  · rw [if_pos h1] at hb; omega
  · rw [if_neg h1] at hb
    by_cases h2 : tyGo x.ls = 0
    · rw [if_neg (by omega)] at hb
      have h3 : shapeGo [] (opsOf x.b) = true := by
        unfold shapeZ at hb
        by_cases e : shapeGo [] (opsOf x.b) = true
        · exact e
        · rw [if_neg e] at hb; omega
      refine ⟨⟨(locGo 0 x.ls).toNat, by omega⟩, h2, h3, errZ_all ?_⟩
      unfold codeZ at hc
      rw [if_pos hb] at hc
      omega
    · rw [if_pos h2] at hb; exact absurd hb h2
/-- What reading a body leaves behind. -/
def GotBd (p : Nat) (l : List UInt8) (x : Bd) (k : Nat) (w : World) (e : Ending) (w' : World) : Prop :=
  ∃ s : SlotBd, s.1 = x ∧ e = .returned (cV s) ∧ HasBd w' w.heap.size s ∧ Sc w' p l k ∧ w.grownBy w' (some p)
/-- What Get's closure leaves behind. -/
def TBd (X : Nat) (x : Bd) (B : Nat) (W : World) : Prop := ∃ s : SlotBd, s.1 = x ∧ HasBd W B s ∧ Whole W X 60 (cC s)
theorem no8_2 {A B : Option Addr} {n c m d : Nat} (i : Nat) (k : Int) : (#[Value.slice A n c, Value.slice B m d] : Array Value)[i]? ≠ some (.int .u8 k) := by
  match i with
  | 0 | 1 => simp
  | i + 2 => simp
end Go.Proofs.YtebgmfjgapmpfabDoor

/- bodies.PutAll. -/
namespace Go.Proofs.YtebgmfjgapmpfabDoor
open Go.RowKit
set_option linter.unusedVariables false
set_option maxRecDepth 100000

/-- May it be? Its bytes. -/
def rBd (x : SlotBd) : Int := brZ x.1
noncomputable def cputB (x : SlotBd) : List UInt8 := codeL x.1
def PuttedC (x : SlotBd) (w : World) (e : Ending) (w' : World) : Prop := ∃ v, e = .returned (.tuple #[v, .int .i64 (rBd x)]) ∧ Row w' w.heap.size v (if rBd x = 0 then cputB x else []) ∧ Below w.heap.size w w'
def OkBds (l : List SlotBd) : Prop := ∀ x ∈ l, BdOk x.1
theorem put_c (x : SlotBd) (w : World) (hT : Tabs w) (h : BdOk x.1) (hL : Los w x.2.1.1 x.1.ls) (hI : Ins w x.2.2.1 x.1.b) : Calls Tryd.prog 21 #[cV x] w (PuttedC x w) := put_bd hT hL hI h.h50 h.h60 h.ok100
/-- The first error. -/
def errBd : List SlotBd → Int
  | [] => 0
  | x :: r => if rBd x ≠ 0 then rBd x else errBd r
theorem errBd_app : ∀ a b : List SlotBd, errBd (a ++ b) = if errBd a ≠ 0 then errBd a else errBd b
  | [], b => by simp [errBd]
  | x :: a, b => by
    simp only [List.cons_append, errBd]
    by_cases h : rBd x = 0
    · simp only [h, ne_eq, not_true_eq_false, if_false, errBd_app a b]
    · simp [h]
theorem errBd_snoc {l : List SlotBd} {k : Nat} {x : SlotBd} (h : l[k]? = some x) : errBd (l.take (k + 1)) = if errBd (l.take k) ≠ 0 then errBd (l.take k) else rBd x := by
  rw [List.take_add_one, h]
  show errBd (l.take k ++ [x]) = _
  rw [errBd_app]
  by_cases e : rBd x = 0 <;> simp [errBd, e]
theorem errBd_bad {l : List SlotBd} {k : Nat} (h : errBd (l.take k) ≠ 0) : errBd l = errBd (l.take k) := by
  conv => lhs; rw [← List.take_append_drop k l]
  rw [errBd_app, if_pos h]
theorem errBd_mem : ∀ {l : List SlotBd}, errBd l = 0 → ∀ x ∈ l, rBd x = 0
  | [], _, x, hx => by cases hx
  | y :: l, h, x, hx => by
    simp only [errBd] at h
    by_cases e : rBd y = 0
    · simp only [e, ne_eq, not_true_eq_false, if_false] at h
      rcases List.mem_cons.1 hx with rfl | hx
      · exact e
      · exact errBd_mem h x hx
    · simp [e] at h
/-- Many bodies' bytes. -/
noncomputable def bdsL (l : List SlotBd) : List UInt8 := l.flatMap cputB
theorem bdsL_snoc {l : List SlotBd} {k : Nat} {x : SlotBd} (h : l[k]? = some x) : bdsL (l.take (k + 1)) = bdsL (l.take k) ++ cputB x := by
  unfold bdsL
  rw [List.take_add_one, h, List.flatMap_append]
  simp
theorem bdsL_len : ∀ {l : List SlotBd}, OkBds l → (bdsL l).length ≤ l.length * 36600
  | [], _ => by simp [bdsL]
  | x :: r, h => by
    have h1 := bdsL_len (l := r) (fun y hy => h y (List.mem_cons_of_mem _ hy))
    have h3 : (cputB x).length ≤ 36600 := codeL_len (h x (by simp))
    unfold bdsL at h1 ⊢
    rw [List.flatMap_cons, List.length_append, List.length_cons]
    omega
noncomputable def allBd (l : List SlotBd) : List UInt8 := lebL l.length ++ bdsL l
/-- What PutAll hands back. -/
def PuttedAllBd (l : List SlotBd) (w : World) (e : Ending) (w' : World) : Prop := ∃ v, e = .returned (.tuple #[v, .int .i64 (errBd l)]) ∧ Row w' w.heap.size v (if errBd l = 0 then allBd l else []) ∧ Below w.heap.size w w'
theorem cfBdP (a : Array Value) (w : World) : (callFunc 21 a).run Tryd.prog w = .ok (.enter 21 a) w := by kernel_rfl
end Go.Proofs.YtebgmfjgapmpfabDoor

/- bodies.GetAll of what PutAll wrote. -/
namespace Go.Proofs.YtebgmfjgapmpfabDoor
open Go.RowKit
set_option linter.unusedVariables false
set_option maxRecDepth 100000

theorem bdsL_at {l : List SlotBd} {k : Nat} {x : SlotBd} (h : l[k]? = some x) : bdsL l = bdsL (l.take k) ++ (codeL x.1 ++ bdsL (l.drop (k + 1))) := by
  have e1 : l = l.take k ++ x :: l.drop (k + 1) := by
    obtain ⟨hj3, hj4⟩ := List.getElem?_eq_some_iff.1 h
    rw [← hj4, ← List.drop_eq_getElem_cons hj3, List.take_append_drop]
  conv => lhs; rw [e1]
  unfold bdsL
  rw [List.flatMap_append, List.flatMap_cons]
  rfl
/-- What holds at the head of GetAll's loop. -/
structure AInBd (w : World) (p : Nat) (l : List UInt8) (k : Nat) (xs : List SlotBd) (v : Value) (W : World) : Prop where
  sc : Sc W p l k
  g : w.grownBy W (some p)
  r : RowBd W w.heap.size v xs
  tb : TbP p W
section
variable {w W W' : World} {p : Nat} {l : List UInt8} {k k' : Nat} {xs : List SlotBd} {x : SlotBd} {v v' : Value}
theorem AInBd.step (h : AInBd w p l k xs v W) (hp : p < w.heap.size) (hg : W.grownBy W' (some p)) (hs : Sc W' p l k') : AInBd w p l k' xs v W' :=
  ⟨hs, gb_trans h.g hg, h.r.past hg hp, h.tb.self hg⟩
theorem AInBd.alloc (h : AInBd w p l k xs v W) (hp : p < w.heap.size) (o : Obj) : AInBd w p l k xs v (W.alloc o) := h.step hp (gb_alloc (gb_refl _ _) o) (h.sc.alloc o)
theorem AInBd.more (h : AInBd w p l k xs v W) (hp : p < w.heap.size) (hg : W.grownBy W' v.ownBlock) (hr : RowBd W' w.heap.size v' (xs ++ [x])) : AInBd w p l k (xs ++ [x]) v' W' := by
  have hlt := h.r.lt
  exact ⟨h.sc.grown hg (fun e => by have := hlt p e.symm; omega) (fun g e => by have := hlt g e; omega), gb_before h.g hg (fun g e => .inr (hlt g e).1), hr, h.tb.grown hg (fun g e => by have := hlt g e; omega)⟩
end
/-- The list that was read. -/
def GotAllBd (p : Nat) (xs : List Bd) (w : World) (e : Ending) (w' : World) : Prop :=
  ∃ v rows, e = .returned v ∧ RowBd w' w.heap.size v rows ∧ rows.map (·.1) = xs ∧ w.grownBy w' (some p)
def GotItBd (p : Nat) (l : List UInt8) (xs : List Bd) (w : World) (e : Ending) (w' : World) : Prop :=
  ∃ v rows, e = .returned v ∧ RowBd w' w.heap.size v rows ∧ rows.map (·.1) = xs ∧ Sc w' p l l.length ∧ w.grownBy w' (some p)
end Go.Proofs.YtebgmfjgapmpfabDoor

/- abort.Value of a function that ends well, whatever it hands back: []api.Code. Value of one that aborts. -/
namespace Go.Proofs.YtebgmfjgapmpfabDoor
open Go.RowKit
set_option linter.unusedVariables false
set_option maxRecDepth 100000

section
variable {T : (Option Addr × Nat × Nat) → World → Prop}
end
end Go.Proofs.YtebgmfjgapmpfabDoor

/- abort.Value of a function that ends well, whatever it hands back: api.Code. (By gen/genVal.py.) -/
namespace Go.Proofs.YtebgmfjgapmpfabDoor
open Go.RowKit
set_option linter.unusedVariables false
set_option maxRecDepth 100000

section
variable {T : SlotBd → World → Prop}
/-- What Value's closure leaves behind, seen from Value's beginning. -/
structure VSBd (T : SlotBd → World → Prop) (w : World) (q : Nat) (x : SlotBd) (w1 : World) : Prop where
  kept : T x w1
  grown : w.grownBy w1 (some q)
  val : Whole w1 (w.heap.size + 3) 60 #[.slice x.2.1.1 x.1.ls.length x.2.1.2, .slice x.2.2.1 x.1.b.length x.2.2.2]
  r1 : Whole w1 (w.heap.size + 1) 60 #[.slice none 0 0, .slice none 0 0]
  r2 : Whole w1 (w.heap.size + 2) 48 #[.int .i64 0, .int .i64 0]
end
end Go.Proofs.YtebgmfjgapmpfabDoor

/- awake; the laws' closures; two lists side by side. -/
namespace Go.Proofs.YtebgmfjgapmpfabDoor
open Go.RowKit
set_option linter.unusedVariables false
set_option maxRecDepth 100000

/-- The page's example: an end alone. -/
def eEnd : I := ⟨11, 0, 0, []⟩
theorem eEnd_ok : eEnd.Ok := ⟨by decide, by decide, by decide, by decide, fun c h => by cases h⟩
theorem eEnd_imm : immR eEnd.n = 0 := by decide +kernel
theorem eEnd_put : putL eEnd = [11] := by
  unfold putL immL immB
  rw [eEnd_imm]
  rfl
def bEg : Bd := ⟨[], [eEnd]⟩
theorem bEg_zero : brZ bEg = 0 := by decide +kernel
theorem bEg_code : codeL bEg = [2, 0, 11] := by
  have hb : bputL bEg = [0, 11] := by
    unfold bputL losL bodyL
    show (lebL 0 ++ []) ++ [eEnd].flatMap putL = _
    rw [List.flatMap_cons, List.flatMap_nil, eEnd_put, lebL_sm 0 (by omega) (by omega)]
    rfl
  unfold codeL
  rw [hb]
  show lebL 2 ++ [0, 11] = _
  rw [lebL_sm 2 (by omega) (by omega)]
  rfl
theorem ins_end (w : World) : Ins (w.alloc (.cells #[.int .u8 11, .int .u64 0, .int .u64 0, .slice none 0 0] 37)) (some ⟨w.heap.size, 0, none⟩) [eEnd] := fun j i hij => by
  have hw := Whole.made w 37 #[.int .u8 11, .int .u64 0, .int .u64 0, .slice none 0 0]
  match j, hij with
  | 0, hij =>
    injection hij with hij
    subst hij
    exact ⟨w.heap.size, 0, none, 0, rfl, hw.lt, ⟨hw.cell 0, hw.cell 1, hw.cell 2, hw.cell 3⟩, fun j v hv => by simp [cells32, eEnd] at hv⟩
  | j + 1, hij => simp at hij
theorem bdawake_any (w : World) (hT : Tabs w) : Calls Tryd.prog 5 #[] w fun e w' => e = .returned (.bool true) ∧ Below w.heap.size w w' := by
  have hb0 := below_box w (.cells #[.int .u8 11, .int .u64 0, .int .u64 0, .slice none 0 0] 37)
  have hp := put_bd (x := bEg) (L := none) (l := 0) (B := some ⟨w.heap.size, 0, none⟩) (c := 1) (hT.below hb0) (fun j x hx => by cases hx) (ins_end w) (by decide) (by decide) (fun i hi => by rw [List.mem_singleton.1 (show i ∈ [eEnd] from hi)]; exact ⟨eEnd_ok, by decide⟩)
  obtain ⟨l, hl⟩ : ∃ l : List UInt8, l = [2, 0, 11] := ⟨_, rfl⟩
  have HP := Lib.hid (show Calls Tryd.prog 21 #[.agg #[.slice none 0 0, .slice (some ⟨w.heap.size, 0, none⟩) 1 1]] (w.alloc (.cells #[.int .u8 11, .int .u64 0, .int .u64 0, .slice none 0 0] 37)) fun e w' => ∃ v, e = .returned (.tuple #[v, .int .i64 0]) ∧ Row w' (w.alloc (.cells #[.int .u8 11, .int .u64 0, .int .u64 0, .slice none 0 0] 37)).heap.size v l ∧ Below (w.alloc (.cells #[.int .u8 11, .int .u64 0, .int .u64 0, .slice none 0 0] 37)).heap.size (w.alloc (.cells #[.int .u8 11, .int .u64 0, .int .u64 0, .slice none 0 0] 37)) w' from hp.mono fun e w' ⟨v, h1, h2, h3⟩ => ⟨v, by rw [bEg_zero] at h1; exact h1, by rw [if_pos bEg_zero, bEg_code] at h2; rw [hl]; exact h2, h3⟩)
  have hcmp : ((S l).toList == [2, 0, 11]) = true := by rw [S_toList, hl]; rfl
  have HB0 := Lib.hid hb0
  clear hl
  clear hp hT hb0
  go_enter Tryd.func5, Tryd.ntmps5
  go_wp2_with (go_at_call 21; go_must ((with_reducible refine HP.out.mono ?_); intro e w1 h; obtain ⟨v, rfl, hr, hb⟩ := h; obtain ⟨A, c, rfl, hcv⟩ := hr.str; have hcv2 := hcv 9 Tryd.underlying9; have HB := Lib.hid (HB0.out.trans (hb.mono HB0.out.size)); clear hb hr hcv))
  go_ret
  exact ⟨rfl, HB.out⟩
/-- The two cells of a body, by its parts. -/
abbrev TwoL (w : World) (b o : Nat) (g : Bd) (a f : Option Addr × Nat) : Prop := w.cell? ⟨b, o, none⟩ = some (.slice a.1 g.ls.length a.2) ∧ w.cell? ⟨b, o + 1, none⟩ = some (.slice f.1 g.b.length f.2)
/-- One of each of two lists, as a walk reads them; both lists. -/
abbrev TwoBd (w : World) (A A2 : Option Addr) (l l2 : List SlotBd) (b off b2 off2 k : Nat) (g : Bd) (a1 a2 c1 c2 : Option Addr × Nat) (W : World) : Prop :=
  (Below w.heap.size w W ∧ Bds W A l ∧ Bds W A2 l2) ∧ TwoL W b (off + k * 2) g a1 c1 ∧ TwoL W b2 (off2 + k * 2) g a2 c2
section
variable {w W W' : World} {A A2 : Option Addr} {l l2 : List SlotBd} {b off b2 off2 k : Nat} {g : Bd} {a1 a2 c1 c2 : Option Addr × Nat}
theorem twoBd_of (h1 : Below w.heap.size w W) (h2 : Bds W A l) (h3 : Bds W A2 l2) (hA : A = some ⟨b, off, none⟩) (hA2 : A2 = some ⟨b2, off2, none⟩) (hx : l[k]? = some (g, a1, c1)) (hy : l2[k]? = some (g, a2, c2)) : TwoBd w A A2 l l2 b off b2 off2 k g a1 a2 c1 c2 W := by
  obtain ⟨d1, o1, e1, _, p⟩ := h2.two hx
  obtain ⟨d2, o2, e2, _, q⟩ := h3.two hy
  rw [hA] at e1
  rw [hA2] at e2
  injection e1 with e1
  injection e2 with e2
  injection e1 with a1 a2
  injection e2 with a3 a4
  subst a1; subst a2; subst a3; subst a4
  exact ⟨⟨h1, h2, h3⟩, p, q⟩
theorem twoBd_on (h : TwoBd w A A2 l l2 b off b2 off2 k g a1 a2 c1 c2 W) (hA : A = some ⟨b, off, none⟩) (hA2 : A2 = some ⟨b2, off2, none⟩) (hx : l[k]? = some (g, a1, c1)) (hy : l2[k]? = some (g, a2, c2)) (hb : Below W.heap.size W W') : TwoBd w A A2 l l2 b off b2 off2 k g a1 a2 c1 c2 W' :=
  twoBd_of (h.1.1.trans (hb.mono h.1.1.size)) (h.1.2.1.below hb) (h.1.2.2.below hb) hA hA2 hx hy
/-- Both have one there, and these are alike. -/
theorem bothBd_at (hm : l.map (·.1) = l2.map (·.1)) (hk : k < l.length) : ∃ g a1 a2 c1 c2, l[k]? = some (g, a1, c1) ∧ l2[k]? = some (g, a2, c2) := by
  obtain ⟨⟨g, a1, c1⟩, hx⟩ : ∃ x, l[k]? = some x := ⟨_, List.getElem?_eq_getElem hk⟩
  have hk2 : k < l2.length := by have := congrArg List.length hm; rw [List.length_map, List.length_map] at this; omega
  obtain ⟨⟨g2, a2, c2⟩, hy⟩ : ∃ y, l2[k]? = some y := ⟨_, List.getElem?_eq_getElem hk2⟩
  have e := congrArg (fun l => l[k]?) hm
  simp only [List.getElem?_map, hx, hy, Option.map_some, Option.some.injEq] at e
  subst e
  exact ⟨g, a1, a2, c1, c2, hx, hy⟩
end
end Go.Proofs.YtebgmfjgapmpfabDoor

/- A slice of instructions, opened. -/
namespace Go.Proofs.YtebgmfjgapmpfabDoor
open Go.ChangeShapes Go.WideShapes Go.ChangeAt Go.RowKit Go.Joins Go.Deep
set_option linter.unusedVariables false
set_option maxRecDepth 100000

theorem cellsI : Tryd.prog.cellsOf 37 = 4 := by kernel_rfl
section
variable {H : Type} {enc : TypeId × Value → H} {W : World} {sp : Nat → Bool}
/-- One element: its four cells, each with its reading. -/
theorem open_elem {n : Nat} {cs : List Value} {x : DataW H × List MemPlace} (h : DataW.trod enc Tryd.prog W 0 sp true n 37 cs = some x) (hc : cs.length = 4) :
    ∃ (i : I) (B : Option Addr) (c : Nat), cs = [.int .u8 i.op.toNat, .int .u64 i.a, .int .u64 i.b, .slice B i.l.length c] ∧ i.Ok ∧ LiesL W B i.l ∧ (i.l.length : Int) ≤ 9223372036854775807 := by
  obtain ⟨ys, m, _, hy, hlen, hyl, hf⟩ := DataW.trod_struct Tryd.underlying37 h
  match cs, hc with
  | [c0, c1, c2, c3], _ =>
    match ys, hyl with
    | [y0, y1, y2, y3], _ =>
      have e1 : Tryd.prog.cellsOf 5 = 1 := by kernel_rfl
      have e2 : Tryd.prog.cellsOf 34 = 1 := by kernel_rfl
      have e3 : Tryd.prog.cellsOf 35 = 1 := by kernel_rfl
      have h0 : DataW.trod enc Tryd.prog W 0 sp true m 5 (([c0, c1, c2, c3].drop 0).take (Tryd.prog.cellsOf 5)) = some y0 := hf 0 _ rfl
      have h1 : DataW.trod enc Tryd.prog W 0 sp true m 34 (([c0, c1, c2, c3].drop 1).take (Tryd.prog.cellsOf 34)) = some y1 := hf 1 _ rfl
      have h2 : DataW.trod enc Tryd.prog W 0 sp true m 34 (([c0, c1, c2, c3].drop 2).take (Tryd.prog.cellsOf 34)) = some y2 := hf 2 _ rfl
      have h3 : DataW.trod enc Tryd.prog W 0 sp true m 35 (([c0, c1, c2, c3].drop 3).take (Tryd.prog.cellsOf 35)) = some y3 := hf 3 _ rfl
      rw [e1] at h0
      rw [e2] at h1 h2
      rw [e3] at h3
      obtain ⟨i, B, c, rfl, rfl, rfl, rfl, ho, hl, hn⟩ := open_parts h0 h1 h2 h3
      exact ⟨i, B, c, rfl, ho, hl, hn⟩
theorem open_list {A : Option Addr} {len cap : Nat} {d : DataW H} {p : List MemPlace} (h : DataW.Trod enc Tryd.prog W 0 sp true 58 (.slice A len cap) d p) :
    ∃ l : List I, l.length = len ∧ (Ins W A l ∧ ∀ i ∈ l, i.Ok ∧ (i.l.length : Int) ≤ 9223372036854775807) ∧ (l.length : Int) ≤ 9223372036854775807 := by
  obtain ⟨fuel, hf⟩ := h
  rcases open_slice Tryd.underlying58 hf with ⟨hcs, _⟩ | ⟨a, ln, cp, m, n, D, Pl, hcs, hb, hl, hm, hmm, hx, hi⟩
  · simp [Value.cells] at hcs
    obtain ⟨rfl, rfl, rfl⟩ := hcs
    exact ⟨[], rfl, ⟨(fun j i hi => by cases hi), (fun i hi => by cases hi)⟩, by simp⟩
  · simp [Value.cells] at hcs
    obtain ⟨rfl, rfl, rfl⟩ := hcs
    have hlm : len ≤ m := by rw [hmm]; split <;> omega
    have each : ∀ j, j < len → ∃ (i : I) (B : Option Addr) (c : Nat), (W.cell? (a.add (j * 4)) = some (.int .u8 i.op.toNat) ∧ W.cell? ((a.add (j * 4)).add 1) = some (.int .u64 i.a) ∧ W.cell? ((a.add (j * 4)).add 2) = some (.int .u64 i.b) ∧ W.cell? ((a.add (j * 4)).add 3) = some (.slice B i.l.length c)) ∧ i.Ok ∧ LiesL W B i.l ∧ (i.l.length : Int) ≤ 9223372036854775807 := by
      intro j hj
      obtain ⟨cs', hc, ht'⟩ := hi j (by omega)
      rw [cellsI] at hc
      obtain ⟨_, hcl, hat⟩ := World.cells?_some hc
      obtain ⟨i, B, c, rfl, ho, hli, hn⟩ := open_elem ht' hcl
      have q0 := hat 0 (by omega)
      have q1 := hat 1 (by omega)
      have q2 := hat 2 (by omega)
      have q3 := hat 3 (by omega)
      exact ⟨i, B, c, ⟨by simpa [Addr.add] using q0, q1, q2, q3⟩, ho, hli, hn⟩
    have pick : ∀ k, k ≤ len → ∃ l : List I, l.length = k ∧ ∀ j i, l[j]? = some i → ∃ (B : Option Addr) (c : Nat), (W.cell? (a.add (j * 4)) = some (.int .u8 i.op.toNat) ∧ W.cell? ((a.add (j * 4)).add 1) = some (.int .u64 i.a) ∧ W.cell? ((a.add (j * 4)).add 2) = some (.int .u64 i.b) ∧ W.cell? ((a.add (j * 4)).add 3) = some (.slice B i.l.length c)) ∧ i.Ok ∧ LiesL W B i.l ∧ (i.l.length : Int) ≤ 9223372036854775807 := by
      intro k
      induction k with
      | zero => intro _; exact ⟨[], rfl, fun j i hi => by cases hi⟩
      | succ k ih =>
        intro hk
        obtain ⟨l, hl1, hl2⟩ := ih (by omega)
        obtain ⟨i, B, c, hq⟩ := each k (by omega)
        refine ⟨l ++ [i], by simp [hl1], fun j i' hi' => ?_⟩
        rcases Nat.lt_or_ge j k with g | g
        · rw [List.getElem?_append_left (by omega)] at hi'
          exact hl2 j i' hi'
        · have hj : j < (l ++ [i]).length := (List.getElem?_eq_some_iff.1 hi').1
          rw [List.length_append, List.length_singleton] at hj
          obtain rfl : j = k := by omega
          rw [List.getElem?_append_right (by omega), hl1, Nat.sub_self] at hi'
          injection hi' with hi'
          subst hi'
          exact ⟨B, c, hq⟩
    obtain ⟨l, hl1, hl2⟩ := pick len (Nat.le_refl _)
    unfold maxLen at hm
    refine ⟨l, hl1, ⟨fun j i hij => ?_, fun i him => ?_⟩, by omega⟩
    · obtain ⟨B, c, ⟨q0, q1, q2, q3⟩, _, hli, _⟩ := hl2 j i hij
      have hj0 := (List.getElem?_eq_some_iff.1 hij).1
      obtain ⟨_, _, ⟨q00, _, _, _⟩, _⟩ := hl2 0 _ (List.getElem?_eq_getElem (by omega : 0 < l.length))
      obtain ⟨b, off, spot⟩ := a
      have hsp : spot = none := by simpa [Addr.add] using World.cell?_spot q00
      subst hsp
      rw [Go.WideShapes.add_plain] at q0 q1 q2 q3
      rw [Go.WideShapes.add_plain] at q1 q2 q3
      exact ⟨b, off, B, c, rfl, block_lt_of_cell q0, ⟨q0, q1, q2, q3⟩, hli⟩
    · obtain ⟨j, hj⟩ := List.getElem?_of_mem him
      obtain ⟨B, c, _, ho, _, hn⟩ := hl2 j i hj
      exact ⟨ho, hn⟩
end
end Go.Proofs.YtebgmfjgapmpfabDoor

/- Numbers of eight and of thirty-two bits, opened. -/
namespace Go.Proofs.YtebgmfjgapmpfabDoor
set_option linter.unusedVariables false

theorem u8_ex {x : Int} (h : Lit.wf (.int .u8 x) = true) : ∃ a : UInt8, x = a.toNat := by
  have b : 0 ≤ x ∧ x ≤ 255 := by simpa [Lit.wf, IntKind.min, IntKind.max, IntKind.signed, IntKind.bits] using h
  exact ⟨UInt8.ofNat x.toNat, by rw [UInt8.toNat_ofNat']; omega⟩
theorem u32_ex {x : Int} (h : Lit.wf (.int .u32 x) = true) : ∃ a : UInt32, x = a.toNat := by
  have b : 0 ≤ x ∧ x ≤ 4294967295 := by simpa [Lit.wf, IntKind.min, IntKind.max, IntKind.signed, IntKind.bits] using h
  exact ⟨UInt32.ofNat x.toNat, by rw [UInt32.toNat_ofNat']; omega⟩
end Go.Proofs.YtebgmfjgapmpfabDoor

/- Groups of locals, a body by value, a slice of bodies: opened. (By gen/genOpen.py.) -/
namespace Go.Proofs.YtebgmfjgapmpfabDoor
open Go.ChangeShapes Go.WideShapes Go.ChangeAt Go.RowKit Go.Joins Go.Deep
set_option linter.unusedVariables false
set_option maxRecDepth 100000

theorem cellsLoc : Tryd.prog.cellsOf 63 = 2 := by kernel_rfl
theorem cellsCode : Tryd.prog.cellsOf 60 = 2 := by kernel_rfl
/-- The numbers of its instructions are what their kinds hold. -/
def OkB (x : SlotBd) : Prop := (∀ i ∈ x.1.b, i.Ok ∧ (i.l.length : Int) ≤ 9223372036854775807) ∧ (x.1.b.length : Int) ≤ 9223372036854775807 ∧ (x.1.ls.length : Int) ≤ 9223372036854775807
section
variable {H : Type} {enc : TypeId × Value → H} {W : World} {sp : Nat → Bool}
theorem open_lo {n : Nat} {cs : List Value} {y : DataW H × List MemPlace} (h : DataW.trod enc Tryd.prog W 0 sp true n 63 cs = some y) (hc : cs.length = 2) : ∃ x : Lo, cs = loL x := by
  obtain ⟨ys, m, _, hy, hlen, hyl, hf⟩ := DataW.trod_struct Tryd.underlying63 h
  match cs, hc with
  | [c0, c1], _ =>
    match ys, hyl with
    | [y0, y1], _ =>
      have e1 : Tryd.prog.cellsOf 61 = 1 := by kernel_rfl
      have e2 : Tryd.prog.cellsOf 5 = 1 := by kernel_rfl
      have h0 : DataW.trod enc Tryd.prog W 0 sp true m 61 (([c0, c1].drop 0).take (Tryd.prog.cellsOf 61)) = some y0 := hf 0 _ rfl
      have h1 : DataW.trod enc Tryd.prog W 0 sp true m 5 (([c0, c1].drop 1).take (Tryd.prog.cellsOf 5)) = some y1 := hf 1 _ rfl
      rw [e1] at h0
      rw [e2] at h1
      obtain ⟨x0, q0, _, w0⟩ := DataW.trod_int Tryd.underlying61 h0
      obtain ⟨x1, q1, _, w1⟩ := DataW.trod_int Tryd.underlying5 h1
      obtain ⟨a, rfl⟩ := u32_ex w0
      obtain ⟨b, rfl⟩ := u8_ex w1
      have q0' : c0 = .int .u32 a.toNat := by simpa using q0
      have q1' : c1 = .int .u8 b.toNat := by simpa using q1
      exact ⟨⟨a, b⟩, by unfold loL; rw [q0', q1']⟩
theorem open_locs {A : Option Addr} {len cap : Nat} {d : DataW H} {p : List MemPlace} (h : DataW.Trod enc Tryd.prog W 0 sp true 24 (.slice A len cap) d p) :
    ∃ l : List Lo, l.length = len ∧ Los W A l ∧ (l.length : Int) ≤ 9223372036854775807 := by
  obtain ⟨fuel, hf⟩ := h
  rcases open_slice Tryd.underlying24 hf with ⟨hcs, _⟩ | ⟨a, ln, cp, m, n, D, Pl, hcs, hb, hl, hm, hmm, hx, hi⟩
  · simp [Value.cells] at hcs
    obtain ⟨rfl, rfl, rfl⟩ := hcs
    exact ⟨[], rfl, (fun j i hi => by cases hi), by simp⟩
  · simp [Value.cells] at hcs
    obtain ⟨rfl, rfl, rfl⟩ := hcs
    have hlm : len ≤ m := by rw [hmm]; split <;> omega
    have each : ∀ j, j < len → ∃ i : Lo, ∀ u, u < 2 → W.cell? ((a.add (j * 2)).add u) = (loL i)[u]? := by
      intro j hj
      obtain ⟨cs', hc, ht'⟩ := hi j (by omega)
      rw [cellsLoc] at hc
      obtain ⟨_, hcl, hat⟩ := World.cells?_some hc
      obtain ⟨i, rfl⟩ := open_lo ht' hcl
      exact ⟨i, fun u hu => hat u (by omega)⟩
    have pick : ∀ k, k ≤ len → ∃ l : List Lo, l.length = k ∧ (∀ (j : Nat) (i : Lo), l[j]? = some i → ∀ u, u < 2 → W.cell? ((a.add (j * 2)).add u) = (loL i)[u]?) := by
      intro k
      induction k with
      | zero => intro _; exact ⟨[], rfl, (fun j i hi => by cases hi)⟩
      | succ k ih =>
        intro hk
        obtain ⟨l, hl1, hl2⟩ := ih (by omega)
        obtain ⟨i, hq⟩ := each k (by omega)
        refine ⟨l ++ [i], by simp [hl1], fun j i' hi' => ?_⟩
        rcases Nat.lt_or_ge j k with g | g
        · rw [List.getElem?_append_left (by omega)] at hi'
          exact hl2 j i' hi'
        · have hj : j < (l ++ [i]).length := (List.getElem?_eq_some_iff.1 hi').1
          rw [List.length_append, List.length_singleton] at hj
          obtain rfl : j = k := by omega
          rw [List.getElem?_append_right (by omega), hl1, Nat.sub_self] at hi'
          injection hi' with hi'
          subst hi'
          exact hq
    obtain ⟨l, hl1, hl2⟩ := pick len (Nat.le_refl _)
    unfold maxLen at hm
    refine ⟨l, hl1, fun j i hij => ?_, by omega⟩
    have q := hl2 j i hij
    have hj0 := (List.getElem?_eq_some_iff.1 hij).1
    have q00 : W.cell? ((a.add (0 * 2)).add 0) = some (.int .u32 (l[0]'(by omega)).n.toNat) := hl2 0 _ (List.getElem?_eq_getElem (by omega : 0 < l.length)) 0 (by omega)
    obtain ⟨b, off, spot⟩ := a
    have hsp : spot = none := by simpa [Addr.add] using World.cell?_spot q00
    subst hsp
    have q2 : ∀ u, u < 2 → W.cell? ⟨b, off + j * 2 + u, none⟩ = (loL i)[u]? := fun u hu => by
      have := q u hu
      rw [Go.WideShapes.add_plain, Go.WideShapes.add_plain] at this
      exact this
    have q0 : W.cell? ⟨b, off + j * 2 + 0, none⟩ = some (.int .u32 i.n.toNat) := q2 0 (by omega)
    exact ⟨b, off, rfl, block_lt_of_cell q0, q0, q2 1 (by omega)⟩
/-- One cell that holds a slice of groups, of instructions. -/
theorem open_locsV {n : Nat} {v : Value} {y : DataW H × List MemPlace} (h : DataW.trod enc Tryd.prog W 0 sp true n 24 [v] = some y) : ∃ A c l, v = .slice A l.length c ∧ Los W A l ∧ (l.length : Int) ≤ 9223372036854775807 := by
  obtain ⟨A, len, cap, rfl⟩ : ∃ A len cap, v = .slice A len cap := by
    rcases open_slice Tryd.underlying24 h with ⟨hcs, _⟩ | ⟨a, ln, cp, m, n, D, Pl, hcs, _⟩
    · exact ⟨none, 0, 0, by simpa using hcs⟩
    · exact ⟨some a, ln, cp, by simpa using hcs⟩
  obtain ⟨l, hl, h1, h2⟩ := open_locs (enc := enc) (sp := sp) (d := y.1) (p := y.2) ⟨n, by simpa [Value.cells] using h⟩
  subst hl
  exact ⟨A, cap, l, rfl, h1, h2⟩
theorem open_insV {n : Nat} {v : Value} {y : DataW H × List MemPlace} (h : DataW.trod enc Tryd.prog W 0 sp true n 58 [v] = some y) : ∃ A c l, v = .slice A l.length c ∧ (Ins W A l ∧ ∀ i ∈ l, i.Ok ∧ (i.l.length : Int) ≤ 9223372036854775807) ∧ (l.length : Int) ≤ 9223372036854775807 := by
  obtain ⟨A, len, cap, rfl⟩ : ∃ A len cap, v = .slice A len cap := by
    rcases open_slice Tryd.underlying58 h with ⟨hcs, _⟩ | ⟨a, ln, cp, m, n, D, Pl, hcs, _⟩
    · exact ⟨none, 0, 0, by simpa using hcs⟩
    · exact ⟨some a, ln, cp, by simpa using hcs⟩
  obtain ⟨l, hl, h1, h2⟩ := open_list (enc := enc) (sp := sp) (d := y.1) (p := y.2) ⟨n, by simpa [Value.cells] using h⟩
  subst hl
  exact ⟨A, cap, l, rfl, h1, h2⟩
/-- Two cells of a body. -/
theorem open_two {n : Nat} {cs : List Value} {x : DataW H × List MemPlace} (h : DataW.trod enc Tryd.prog W 0 sp true n 60 cs = some x) (hc : cs.length = 2) : ∃ s : SlotBd, cs = cL s ∧ OkB s ∧ (Los W s.2.1.1 s.1.ls ∧ Ins W s.2.2.1 s.1.b) := by
  obtain ⟨ys, m, _, hy, hlen, hyl, hf⟩ := DataW.trod_struct Tryd.underlying60 h
  match cs, hc with
  | [c0, c1], _ =>
    match ys, hyl with
    | [y0, y1], _ =>
      have e1 : Tryd.prog.cellsOf 24 = 1 := by kernel_rfl
      have e2 : Tryd.prog.cellsOf 58 = 1 := by kernel_rfl
      have h0 : DataW.trod enc Tryd.prog W 0 sp true m 24 (([c0, c1].drop 0).take (Tryd.prog.cellsOf 24)) = some y0 := hf 0 _ rfl
      have h1 : DataW.trod enc Tryd.prog W 0 sp true m 58 (([c0, c1].drop 1).take (Tryd.prog.cellsOf 58)) = some y1 := hf 1 _ rfl
      rw [e1] at h0
      rw [e2] at h1
      obtain ⟨L, l, ls, r0, hl, nl⟩ := open_locsV h0
      obtain ⟨B, c, b, r1, ⟨hi, ho⟩, nb⟩ := open_insV h1
      exact ⟨(⟨ls, b⟩, (L, l), (B, c)), by unfold cL cC bdC; rw [r0, r1], ⟨ho, nb, nl⟩, hl, hi⟩
theorem open_code {b0 : Nat} {r : Reach} {v : Value} {d : DataW H} {p : List MemPlace} (hv : Value.okWide Tryd.prog W r b0 60 v) (h : DataW.Trod enc Tryd.prog W 0 sp true 60 v d p) :
    ∃ x : SlotBd, v = cV x ∧ OkB x ∧ (Los W x.2.1.1 x.1.ls ∧ Ins W x.2.2.1 x.1.b) := by
  obtain ⟨cs, rfl, hsz⟩ := okWide_struct Tryd.underlying60 hv
  rw [cellsCode] at hsz
  obtain ⟨fuel, hf⟩ := h
  obtain ⟨i, hi, h1, h2⟩ := open_two (cs := cs.toList) (by simpa [Value.cells] using hf) (by simpa using hsz)
  exact ⟨i, by show Value.agg cs = .agg (cC i); congr 1; apply Array.toList_inj.1; exact hi, h1, h2⟩
end
end Go.Proofs.YtebgmfjgapmpfabDoor
