/- Bodies that lie somewhere; rows of bodies of the call's own, with their groups of locals and their instructions. -/
import Derived.Test.YtebgmfjgapmpfaaGreatDoorQb02
import Derived.Test.YtebgmfjgapmpfaaGreatDoorQb04
import Derived.OwnWalk
import Derived.Test.YtebgmfjgapmpfaaGreatDoorQa06
import Derived.Test.YtebgmfjgapmpfaaGreatDoorQa02
import Derived.Test.YtebgmfjgapmpfaaGreatDoorQa04
import Derived.Deep.DeepMust
namespace Go.Proofs.YtebgmfjgapmpfaaGreatDoor
open Go.RowKit
set_option linter.unusedVariables false
set_option maxRecDepth 100000

/-- Groups that were read: none, or the beginning of a block of their own. -/
def loL (x : Lo) : List Value := [.int .u32 x.n.toNat, .int .u8 x.t.toNat]
def LocT (W : World) (A : Option Addr) (ls : List Lo) : Prop := (A = none ∧ ls = []) ∨ ∃ g cur, A = some ⟨g, 0, none⟩ ∧ Whole W g 105 cur ∧ cur.toList.take (ls.length * 2) = ls.flatMap loL
theorem LocT.keep {W W' : World} {A : Option Addr} {ls : List Lo} {row : Option Nat} (h : LocT W A ls) (hg : W.grownBy W' row) (hq : ∀ a, A = some a → some a.block ≠ row) : LocT W' A ls := by
  rcases h with h | ⟨g, cur, rfl, h, ht⟩
  · exact .inl h
  · exact .inr ⟨g, cur, rfl, h.grown hg (hq _ rfl), ht⟩
theorem LocT.on {W W' : World} {A : Option Addr} {ls : List Lo} (h : LocT W A ls) (hb : Below W.heap.size W W') : LocT W' A ls := h.keep (gb_of_below none hb) (fun a _ => by simp)
theorem LocT.apart {W : World} {A : Option Addr} {ls : List Lo} (h : LocT W A ls) {q : Nat} {t : TypeId} {cs : Array Value} (hw : Whole W q t cs) (ht : t ≠ 105) : ∀ a, A = some a → some a.block ≠ some q := by
  rcases h with ⟨rfl, rfl⟩ | ⟨g, cur, rfl, h, _⟩
  · intro a e; cases e
  · intro a e
    injection e with e
    subst e
    simp only [ne_eq, Option.some.injEq]
    exact fun e => hw.apart h ht e.symm
theorem loc_own {W : World} {b : Nat} {e : TypeId} {s n : Nat} {v : Value} {xs : List Value} {A : Option Addr} {ls : List Lo} (hl : LocT W A ls) (h : W.ownsRow b e s v n xs) (ht : 105 ≠ e) : ∀ a, A = some a → some a.block ≠ v.ownBlock := by
  rcases hl with ⟨rfl, _⟩ | ⟨g, cur, rfl, hw, _⟩
  · intro a e; cases e
  · intro a e
    injection e with e
    subst e
    exact own_whole h hw ht
theorem flatLo_get : ∀ (l : List Lo) (j : Nat) (x : Lo) (u : Nat), l[j]? = some x → u < 2 → (l.flatMap loL)[j * 2 + u]? = (loL x)[u]?
  | [], j, x, u, h, _ => by cases h
  | y :: l, 0, x, u, h, hu => by
    injection h with h
    subst h
    rw [List.flatMap_cons, Nat.zero_mul, Nat.zero_add, List.getElem?_append_left (by show u < 2; exact hu)]
  | y :: l, j + 1, x, u, h, hu => by
    rw [List.flatMap_cons, List.getElem?_append_right (by show 2 ≤ _; omega)]
    have e : (j + 1) * 2 + u - (loL y).length = j * 2 + u := by show (j + 1) * 2 + u - 2 = _; omega
    rw [e]
    exact flatLo_get l j x u h hu
theorem LocT.los {W : World} {A : Option Addr} {ls : List Lo} (h : LocT W A ls) : Los W A ls := fun j x hx => by
  have hj := (List.getElem?_eq_some_iff.1 hx).1
  rcases h with ⟨_, rfl⟩ | ⟨g, cur, rfl, h, ht⟩
  · cases hx
  · have key : ∀ u, u < 2 → W.cell? ⟨g, 0 + j * 2 + u, none⟩ = (loL x)[u]? := fun u hu => by
      rw [h.cell, ← flatLo_get ls j x u hx hu, ← ht, List.getElem?_take, if_pos (by omega)]
      simp
    exact ⟨g, 0, rfl, h.lt, key 0 (by omega), key 1 (by omega)⟩
/-- A body, where its groups lie, where its instructions lie. -/
abbrev SlotBd := Bd × (Option Addr × Nat) × (Option Addr × Nat)
abbrev cC (x : SlotBd) : Array Value := bdC x.1 x.2.1.1 x.2.1.2 x.2.2.1 x.2.2.2
abbrev cV (x : SlotBd) : Value := .agg (cC x)
def cL (x : SlotBd) : List Value := (cC x).toList
theorem infoBd : (Tryz.prog.info? 70).map (fun i => (i.zero, i.size, i.bytes)) = some (some (.agg bdZ), 2, 48) := by kernel_rfl
/-- What a body that was read holds: its groups, its instructions with their labels, all behind a bound. -/
def HasBd (W : World) (base : Nat) (x : SlotBd) : Prop := (LocT W x.2.1.1 x.1.ls ∧ ∀ a, x.2.1.1 = some a → base ≤ a.block) ∧ ∃ rows, RowIL W base (.slice x.2.2.1 x.1.b.length x.2.2.2) rows ∧ rows.map (·.1) = x.1.b
theorem HasBd.past {W W' : World} {base b : Nat} {x : SlotBd} (h : HasBd W base x) (hg : W.grownBy W' (some b)) (hb : b < base) : HasBd W' base x := by
  obtain ⟨⟨h1, h2⟩, rows, h3, h4⟩ := h
  exact ⟨⟨h1.keep hg (fun a ha => by have := h2 a ha; simp only [ne_eq, Option.some.injEq]; omega), h2⟩, rows, h3.past hg hb, h4⟩
theorem HasBd.later {W W' : World} {base : Nat} {x : SlotBd} (h : HasBd W base x) (hb : Below W.heap.size W W') : HasBd W' base x := by
  obtain ⟨⟨h1, h2⟩, rows, h3, h4⟩ := h
  exact ⟨⟨h1.on hb, h2⟩, rows, h3.later hb, h4⟩
theorem HasBd.mono {W : World} {base base' : Nat} {x : SlotBd} (h : HasBd W base x) (hb : base' ≤ base) : HasBd W base' x := by
  obtain ⟨⟨h1, h2⟩, rows, h3, h4⟩ := h
  exact ⟨⟨h1, fun a ha => Nat.le_trans hb (h2 a ha)⟩, rows, h3.mono hb, h4⟩
theorem HasBd.beside {W W' : World} {base b n : Nat} {u : Value} {xs : List Value} {x : SlotBd} (h : HasBd W base x) (hr : W.ownsRow b 70 2 u n xs) (hg : W.grownBy W' u.ownBlock) : HasBd W' base x := by
  obtain ⟨⟨h1, h2⟩, rows, h3, h4⟩ := h
  exact ⟨⟨h1.keep hg (loc_own h1 hr (by decide)), h2⟩, rows, h3.beside hr hg (by decide) (by decide), h4⟩
/-- A row of bodies of the call's own; what each holds lies behind the row's bound. -/
structure RowBd (W : World) (base : Nat) (v : Value) (rows : List SlotBd) : Prop where
  own : W.ownsRow base 70 2 v rows.length (rows.flatMap cL)
  has : ∀ x ∈ rows, HasBd W base x
theorem RowBd.nil (W : World) (base : Nat) : RowBd W base (.slice none 0 0) [] := ⟨World.ownsRow_nil W base _ 2, fun x hx => by cases hx⟩
theorem RowBd.slice {W : World} {base : Nat} {v : Value} {rows : List SlotBd} (h : RowBd W base v rows) : ∃ A c, v = .slice A rows.length c := by
  rcases h.own.2 with ⟨rfl, h0⟩ | ⟨g, cap, cur, rfl, _⟩
  · exact ⟨none, 0, by rw [h0]⟩
  · exact ⟨_, cap, rfl⟩
theorem RowBd.lt {W : World} {base : Nat} {v : Value} {rows : List SlotBd} (h : RowBd W base v rows) : ∀ k, v.ownBlock = some k → base ≤ k ∧ k < W.heap.size := World.ownsRow.lt h.own
theorem RowBd.past {W W' : World} {base b : Nat} {v : Value} {rows : List SlotBd} (h : RowBd W base v rows) (hg : W.grownBy W' (some b)) (hb : b < base) : RowBd W' base v rows :=
  ⟨World.ownsRow.kept h.own hg (by
    cases hv : v.ownBlock with
    | none => exact .inl rfl
    | some k => exact .inr (by have := (World.ownsRow.lt h.own k hv).1; simp only [ne_eq, Option.some.injEq]; omega)),
   fun x hx => (h.has x hx).past hg hb⟩
theorem RowBd.later {W W' : World} {base : Nat} {v : Value} {rows : List SlotBd} (h : RowBd W base v rows) (hb : Below W.heap.size W W') : RowBd W' base v rows :=
  ⟨World.ownsRow.kept h.own (gb_of_below none hb) (by cases v.ownBlock with
    | none => exact .inl rfl
    | some k => exact .inr (by simp)), fun x hx => (h.has x hx).later hb⟩
theorem RowBd.alloc {W : World} {base : Nat} {v : Value} {rows : List SlotBd} (h : RowBd W base v rows) (o : Obj) : RowBd (W.alloc o) base v rows := h.later (below_box W o)
theorem RowBd.mono {W : World} {base base' : Nat} {v : Value} {rows : List SlotBd} (h : RowBd W base v rows) (hb : base' ≤ base) : RowBd W base' v rows := by
  obtain ⟨⟨h1, h2⟩, h3⟩ := h
  refine ⟨⟨h1, ?_⟩, fun x hx => (h3 x hx).mono hb⟩
  rcases h2 with h2 | ⟨g, cap, cur, e, hg, r⟩
  · exact .inl h2
  · exact .inr ⟨g, cap, cur, e, Nat.le_trans hb hg, r⟩
/-- The slice at A reads as these bodies, and what each holds lies. -/
def Bds (w : World) (A : Option Addr) (l : List SlotBd) : Prop :=
  ∀ j x, l[j]? = some x → (∃ b off, A = some ⟨b, off, none⟩ ∧ b < w.heap.size ∧ ∀ u, u < 2 → w.cell? ⟨b, off + j * 2 + u, none⟩ = (cL x)[u]?) ∧ Los w x.2.1.1 x.1.ls ∧ Ins w x.2.2.1 x.1.b
theorem Bds.below {w w' : World} {A : Option Addr} {l : List SlotBd} (h : Bds w A l) (hb : Below w.heap.size w w') : Bds w' A l := fun j x hx => by
  obtain ⟨⟨b, off, e, h1, h2⟩, h3, h4⟩ := h j x hx
  exact ⟨⟨b, off, e, Nat.lt_of_lt_of_le h1 hb.size, fun u hu => (hb.cell (p := ⟨b, _, none⟩) h1).trans (h2 u hu)⟩, h3.below hb, h4.below hb⟩
/-- The two cells of one of them, as a walk writes them. -/
abbrev TwoAtB (w : World) (b : Nat) (o : Nat) (x : SlotBd) : Prop := w.cell? ⟨b, o, none⟩ = some (.slice x.2.1.1 x.1.ls.length x.2.1.2) ∧ w.cell? ⟨b, o + 1, none⟩ = some (.slice x.2.2.1 x.1.b.length x.2.2.2)
theorem Bds.two {w : World} {A : Option Addr} {l : List SlotBd} (h : Bds w A l) {k : Nat} {x : SlotBd} (hx : l[k]? = some x) : ∃ b off, A = some ⟨b, off, none⟩ ∧ b < w.heap.size ∧ TwoAtB w b (off + k * 2) x := by
  obtain ⟨⟨b, off, e, h1, h2⟩, _⟩ := h k x hx
  exact ⟨b, off, e, h1, h2 0 (by omega), h2 1 (by omega)⟩
theorem flatBd_get : ∀ (l : List SlotBd) (j : Nat) (x : SlotBd) (u : Nat), l[j]? = some x → u < 2 → (l.flatMap cL)[j * 2 + u]? = (cL x)[u]?
  | [], j, x, u, h, _ => by cases h
  | y :: l, 0, x, u, h, hu => by
    injection h with h
    subst h
    rw [List.flatMap_cons, Nat.zero_mul, Nat.zero_add, List.getElem?_append_left (by show u < 2; exact hu)]
  | y :: l, j + 1, x, u, h, hu => by
    rw [List.flatMap_cons, List.getElem?_append_right (by show 2 ≤ _; omega)]
    have e : (j + 1) * 2 + u - (cL y).length = j * 2 + u := by show (j + 1) * 2 + u - 2 = _; omega
    rw [e]
    exact flatBd_get l j x u h hu
theorem HasBd.ins {W : World} {base : Nat} {x : SlotBd} (h : HasBd W base x) : Los W x.2.1.1 x.1.ls ∧ Ins W x.2.2.1 x.1.b := by
  obtain ⟨⟨h1, _⟩, rows, h3, h4⟩ := h
  refine ⟨h1.los, ?_⟩
  rw [← h4]
  exact h3.insF.ins
/-- What a row of bodies reads as. -/
theorem RowBd.bds {W : World} {base : Nat} {A : Option Addr} {n c : Nat} {rows : List SlotBd} (h : RowBd W base (.slice A n c) rows) : Bds W A rows := fun j x hx => by
  have hj := (List.getElem?_eq_some_iff.1 hx).1
  refine ⟨?_, (h.has x (List.mem_of_getElem? hx)).ins⟩
  rcases h.own.2 with ⟨_, h0⟩ | ⟨g, cap, cur, e, _, hg, _, _, _, ht⟩
  · omega
  · injection e with e1 e2 e3
    exact ⟨g, 0, e1, (Array.getElem?_eq_some_iff.1 hg).1, fun u hu => by
      rw [cell_of_row W g (0 + j * 2 + u) cur _ _ hg, ← flatBd_get rows j x u hx hu, ← ht, List.getElem?_take, if_pos (by omega)]
      simp⟩
end Go.Proofs.YtebgmfjgapmpfaaGreatDoor

/- wire.Part, wire.Whole of bytes that are there: a part that a closure with one box of its own reads to its end. -/
namespace Go.Proofs.YtebgmfjgapmpfaaGreatDoor
open Go.RowKit
set_option linter.unusedVariables false
set_option maxRecDepth 100000

/-- Two blocks alone may have turned. -/
structure Gb2 (w w' : World) (a b : Nat) : Prop where
  os : w'.os = w.os
  tape : w'.tape = w.tape
  output : w'.output = w.output
  size : w.heap.size ≤ w'.heap.size
  block : ∀ k, k < w.heap.size → k ≠ a → k ≠ b → w'.heap[k]? = w.heap[k]?
section
variable {w w1 w2 w' : World} {a b p q X : Nat}
theorem Gb2.refl (w : World) (a b : Nat) : Gb2 w w a b := ⟨rfl, rfl, rfl, Nat.le_refl _, fun _ _ _ _ => rfl⟩
theorem Gb2.trans (h : Gb2 w w1 a b) (k : Gb2 w1 w2 a b) : Gb2 w w2 a b :=
  ⟨k.os.trans h.os, k.tape.trans h.tape, k.output.trans h.output, Nat.le_trans h.size k.size, fun i hi h1 h2 => (k.block i (Nat.lt_of_lt_of_le hi h.size) h1 h2).trans (h.block i hi h1 h2)⟩
theorem Gb2.left (h : w.grownBy w' (some a)) : Gb2 w w' a b := ⟨h.os, h.tape, h.output, h.size, fun i hi h1 _ => h.block i hi (by simp only [ne_eq, Option.some.injEq]; exact h1)⟩
theorem Gb2.right (h : w.grownBy w' (some b)) : Gb2 w w' a b := ⟨h.os, h.tape, h.output, h.size, fun i hi _ h2 => h.block i hi (by simp only [ne_eq, Option.some.injEq]; exact h2)⟩
theorem Gb2.of_below (h : Below w.heap.size w w') : Gb2 w w' a b := .left (gb_of_below _ h)
/-- Seen from before one of the two was made. -/
theorem Gb2.before (h : Gb2 w w1 p X) (k : Gb2 w1 w2 q X) (hq : w.heap.size ≤ q) : Gb2 w w2 p X :=
  ⟨k.os.trans h.os, k.tape.trans h.tape, k.output.trans h.output, Nat.le_trans h.size k.size, fun i hi h1 h2 => (k.block i (Nat.lt_of_lt_of_le hi h.size) (by omega) h2).trans (h.block i hi h1 h2)⟩
theorem Gb2.new (h : Gb2 w w1 p X) (k : w1.grownBy w2 (some b)) (hb : w.heap.size ≤ b) : Gb2 w w2 p X :=
  ⟨k.os.trans h.os, k.tape.trans h.tape, k.output.trans h.output, Nat.le_trans h.size k.size, fun i hi h1 h2 => (k.block i (Nat.lt_of_lt_of_le hi h.size) (by simp only [ne_eq, Option.some.injEq]; omega)).trans (h.block i hi h1 h2)⟩
/-- .. both. -/
theorem Gb2.gb (h : Gb2 w w' a b) (hb : w.heap.size ≤ b) : w.grownBy w' (some a) :=
  ⟨h.os, h.tape, h.output, h.size, fun i hi h1 => h.block i hi (fun e => h1 (by rw [e])) (by omega)⟩
theorem Gb2.whole {g : Nat} {t : TypeId} {cs : Array Value} (h : Gb2 w w' a b) (hw : Whole w g t cs) (h1 : g ≠ a) (h2 : g ≠ b) : Whole w' g t cs := (h.block g hw.lt h1 h2).trans hw
theorem Gb2.sc {l : List UInt8} {k : Nat} (hg : Gb2 w w' a b) (h : Sc w p l k) (h1 : p < a) (h2 : p < b) : Sc w' p l k := by
  have hlt := h.lt
  obtain ⟨A, cap, h3, h4, h5⟩ := h
  refine ⟨A, cap, hg.whole h3 (by omega) (by omega), fun i v hv => ?_, h5⟩
  obtain ⟨c, off, e, h6, h7⟩ := h4 i v hv
  exact ⟨c, off, e, h6, (World.cell?_of_block (a := ⟨c, _, none⟩) (hg.block c (by omega) (by omega) (by omega))).trans h7⟩
/-- A block that holds no byte turns: what a scanner reads stays. -/
theorem Sc.box {l : List UInt8} {k : Nat} {t : TypeId} {cs : Array Value} (h : Sc w q l k) (hX : Whole w X t cs) (hne : X ≠ q) (hno : ∀ (i : Nat) (n : Int), cs[i]? ≠ some (.int .u8 n)) (hg : w.grownBy w' (some X)) : Sc w' q l k := by
  have hlt := h.lt
  obtain ⟨A, cap, h3, h4, h5⟩ := h
  refine ⟨A, cap, h3.grown hg (by simp only [ne_eq, Option.some.injEq]; omega), fun i v hv => ?_, h5⟩
  obtain ⟨c, off, e, h6, h7⟩ := h4 i v hv
  have hcX : c ≠ X := by
    rintro rfl
    rw [hX.cell] at h7
    have hm := List.mem_of_getElem? hv
    unfold cells at hm
    obtain ⟨n, _, rfl⟩ := List.mem_map.1 hm
    exact hno _ _ h7
  exact ⟨c, off, e, h6, (World.cell?_of_block (a := ⟨c, _, none⟩) (hg.block c (by omega) (by simp only [ne_eq, Option.some.injEq]; exact hcX))).trans h7⟩
end

/-- What Part leaves behind. -/
def Parted (p : Nat) (l : List UInt8) (n k1 : Nat) (w : World) (e : Ending) (w' : World) : Prop :=
  ∃ q, e = .returned (.tuple #[.pointer (some ⟨q, 0, none⟩), .int .i64 k1]) ∧ w.heap.size ≤ q ∧ Sc w' q ((l.drop k1).take n) 0 ∧ Sc w' p l (k1 + n) ∧ w.grownBy w' (some p)
set_option maxHeartbeats 800000 in
theorem part_w {w : World} {p : Nat} {l : List UInt8} {k n k1 : Nat} (h : Sc w p l k) (hi : indexR l k = .ok (n : Int) k1) (hm : k1 + n ≤ l.length) :
    Calls Tryz.prog 113 #[.pointer (some ⟨p, 0, none⟩)] w (Parted p l n k1 w) := by
  have hN := index_scan h
  have hle := h.le.2
  rw [hi] at hN
  have HN := Lib.hid hN
  obtain ⟨hk, v0, v1⟩ := uintR_ok (show uintR l k 32 = .ok (n : Int) k1 from hi)
  have v2 : (n : Int) < 4294967296 := v1
  have w1 : IntKind.u64.wrap (n : Int) = n := by simp [IntKind.wrap, IntKind.bits, IntKind.signed]; omega
  have w2 : IntKind.u64.wrap ((l.length : Int) - k1) = (l.length : Int) - k1 := by simp [IntKind.wrap, IntKind.bits, IntKind.signed]; omega
  have w3 : IntKind.i64.wrap (n : Int) = n := by rw [IntKind.wrap_i64]; omega
  have d1 : decide ((n : Int) ≤ (l.length : Int) - k1) = true := by simp; omega
  have d2 : (n : Int) ≤ (l.length : Int) - k1 := by omega
  have HSu := Lib.hid (fun (W : World) (hs : Sc W p l k1) => sub_ok hs n hm)
  clear hN hi h v0 v1 hm
  go_enter Tryz.func113, Tryz.ntmps113
  go_wp2_with (first
    | (go_at_call 117; go_must ((with_reducible refine HN.out.mono ?_); rintro e w1 ⟨rfl, hs, hg⟩; have HS := Lib.hid hs; have HG := Lib.hid hg; clear hs hg))
    | (go_at_call 120; go_must ((with_reducible refine (at_any HS.out).mono ?_); rintro e w2 ⟨rfl, rfl⟩))
    | (go_at_call 42; go_must ((with_reducible refine (left_any HS.out).mono ?_); rintro e w2 ⟨rfl, m, rfl⟩))
    | (go_at_call 80; go_must ((with_reducible refine (unlessT _ _ _).mono ?_); rintro e w' ⟨rfl, rfl⟩))
    | (go_at_call 147; go_must ((with_reducible refine (HSu.out _ (HS.out.drewN m)).mono ?_); rintro e w3 ⟨q, rfl, hq, hs1, hs2, hg2⟩; have HQ := Lib.hid hq; have HS1 := Lib.hid hs1; have HS2 := Lib.hid hs2; have HG2 := Lib.hid (gb_trans (gb_drewN HG.out m) hg2); clear hq hs1 hs2 hg2)))
  go_ret2
  exact ⟨q, rfl, Nat.le_trans HG.out.size HQ.out, HS1.out, HS2.out, HG2.out⟩

/-- What the closure of a Whole leaves behind: T, of a world that was there ahead of it. -/
def WRead (T : Nat → World → Prop) (q X : Nat) (part : List UInt8) (w : World) (e : Ending) (w' : World) : Prop :=
  e = .returned (.tuple #[]) ∧ T w.heap.size w' ∧ Sc w' q part part.length ∧ Gb2 w w' q X
theorem cfW1 (cap : Array Value) (w : World) : (callFunc 115 cap).run Tryz.prog w = .ok (.enter 115 cap) w := by kernel_rfl
set_option maxHeartbeats 2000000 in
/-- Whole's own closure: the reader, and the part's end. -/
theorem wclos_w {w : World} {R P q X : Nat} {part : List UInt8} {g : FuncId} {T : Nat → World → Prop} (hcf : ∀ (a : Array Value) (w : World), (callFunc g a).run Tryz.prog w = .ok (.enter g a) w)
    (hR : Whole w R 118 #[.func (.func g) #[] #[.pointer (some ⟨X, 0, none⟩)]]) (hP : Whole w P 24 #[.pointer (some ⟨q, 0, none⟩)]) (hPq : P ≠ q ∧ P ≠ X)
    (hT : ∀ B W m, T B W → T B (W.drewN m))
    (hread : Calls Tryz.prog g #[.pointer (some ⟨q, 0, none⟩), .pointer (some ⟨X, 0, none⟩)] w (WRead T q X part w)) :
    Calls Tryz.prog 115 #[.pointer (some ⟨R, 0, none⟩), .pointer (some ⟨P, 0, none⟩)] w (WRead T q X part w) := by
  have c0 := hR.cell 0
  have c1 := hP.cell 0
  simp only [List.getElem?_toArray, List.getElem?_cons_zero] at c0 c1
  have HP := Lib.hid hP
  have HT := Lib.hid hT
  have HH := Lib.hid hread
  clear hR hP hread hT
  go_enter Tryz.func115, Tryz.ntmps115
  go_wp2_with fail
  refine HH.out.mono ?_
  rintro e w1 ⟨rfl, ht, hs, hg⟩
  have c2 := (hg.whole HP.out hPq.1 hPq.2).cell 0
  simp only [List.getElem?_toArray, List.getElem?_cons_zero] at c2
  have HT1 := Lib.hid ht
  have HS1 := Lib.hid hs
  have HG1 := Lib.hid hg
  have HEn := Lib.hid (end_ok hs)
  clear ht hs hg c0 c1
  go_wp2_with (go_at_call 91; go_must ((with_reducible refine HEn.out.mono ?_); rintro e w2 ⟨rfl, m, rfl⟩))
  go_end0
  exact ⟨rfl, HT.out _ _ _ HT1.out, HS1.out.drewN m, HG1.out.trans (.left (gb_drewN (gb_refl _ _) m))⟩
set_option maxHeartbeats 4000000 in
/-- A part that is read to its end. -/
theorem whole_w {w : World} {p X : Nat} {l part : List UInt8} {k n k1 : Nat} (g : FuncId) (T : Nat → World → Prop) (h : Sc w p l k) (hi : indexR l k = .ok (n : Int) k1) (hm : k1 + n ≤ l.length) (hl : l.length ≤ 1000000)
    (hpt : (l.drop k1).take n = part) (hpX : p < X) (hX : X < w.heap.size)
    (hcf : ∀ (a : Array Value) (w : World), (callFunc g a).run Tryz.prog w = .ok (.enter g a) w)
    (hT : ∀ B W W' b, T B W → W.grownBy W' (some b) → w.heap.size ≤ b → b < B → T B W') (hTd : ∀ B W m, T B W → T B (W.drewN m))
    (hread : ∀ W q, w.grownBy W (some p) → w.heap.size ≤ q → Sc W q part 0 → Calls Tryz.prog g #[.pointer (some ⟨q, 0, none⟩), .pointer (some ⟨X, 0, none⟩)] W (WRead T q X part W)) :
    Calls Tryz.prog 76 #[.pointer (some ⟨p, 0, none⟩), .func (.func g) #[] #[.pointer (some ⟨X, 0, none⟩)]] w fun e w' =>
      e = .returned (.tuple #[]) ∧ (∃ B, w.heap.size ≤ B ∧ T B w') ∧ Sc w' p l (k1 + n) ∧ Gb2 w w' p X := by
  have hp := h.lt
  have HR0 := Lib.hid (Whole.made w 118 #[.func (.func g) #[] #[.pointer (some ⟨X, 0, none⟩)]])
  have hz0 : (w.alloc (.cells #[.func (.func g) #[] #[.pointer (some ⟨X, 0, none⟩)]] 118)).heap.size = w.heap.size + 1 := by simp
  have hPa := part_w (h.alloc (.cells #[.func (.func g) #[] #[.pointer (some ⟨X, 0, none⟩)]] 118)) hi hm
  unfold Parted at hPa
  rw [hpt] at hPa
  have HPa := Lib.hid hPa
  have HRd := Lib.hid hread
  have HT := Lib.hid hT
  have hk1 : k1 ≤ 1000000 := by omega
  have hpl : part.length ≤ 1000000 := by rw [← hpt, List.length_take, List.length_drop]; omega
  obtain ⟨kn, hkn⟩ : ∃ kn, kn = k1 + n := ⟨_, rfl⟩
  rw [← hkn] at HPa ⊢
  have HCF := Lib.hid hcf
  have G0 := Lib.hid (gb_alloc (gb_refl w (some p)) (.cells #[.func (.func g) #[] #[.pointer (some ⟨X, 0, none⟩)]] 118))
  clear h hi hm hl hpt hread hT hPa hkn hcf
  go_enter Tryz.func76, Tryz.ntmps76
  go_wp2_with (go_at_call 113; go_must ((with_reducible refine HPa.out.mono ?_); intro e w2 hq; obtain ⟨q, rfl, hq, hs1, hs2, hg⟩ := hq; have HQ := Lib.hid hq; have HS1 := Lib.hid hs1; have HS2 := Lib.hid hs2; have HR2 := Lib.hid (HR0.out.grown hg (by simp only [ne_eq, Option.some.injEq]; omega)); have HG2 := Lib.hid (gb_trans G0.out hg); clear hq hs1 hs2 hg))
  have hqz : q < w2.heap.size := HS1.out.lt
  have hqw : w.heap.size < q := by have := HQ.out; omega
  have hb1 := below_box w2 (.cells #[.pointer (some ⟨q, 0, none⟩)] 24)
  have HP3 := Lib.hid (Whole.made w2 24 #[.pointer (some ⟨q, 0, none⟩)])
  have HR3 := Lib.hid (HR2.out.below hb1)
  have HS13 := Lib.hid (HS1.out.below hb1)
  have HS23 := Lib.hid (HS2.out.below hb1)
  have HG3 := Lib.hid (gb_trans HG2.out (gb_of_below (some p) hb1))
  have hz3 : (w2.alloc (.cells #[.pointer (some ⟨q, 0, none⟩)] 24)).heap.size = w2.heap.size + 1 := by simp
  clear HPa HR2 HS1 HS2 HG2 hb1
  generalize w2.alloc (.cells #[.pointer (some ⟨q, 0, none⟩)] 24) = W at *
  have hbb := below_box W (.cells #[.int .i64 0, .int .i64 0] 32)
  have hz4 : (W.alloc (.cells #[.int .i64 0, .int .i64 0] 32)).heap.size = W.heap.size + 1 := by simp
  have HSt := Lib.hid (Whole.made W 32 #[.int .i64 0, .int .i64 0])
  have hcl := wclos_w (T := T) HCF.out (HR3.out.below hbb) (HP3.out.below hbb) ⟨by omega, by omega⟩ hTd (HRd.out _ q (gb_trans HG3.out (gb_of_below (some p) hbb)) (by omega) (HS13.out.below hbb))
  have hwi := within_any _ _ 0 0 k1 W (fun w1 => WRead T q X part (W.alloc (.cells #[.int .i64 0, .int .i64 0] 32)) (.returned (.tuple #[])) w1) (cfW1 _) (hcl.mono (by
    rintro e w1 ⟨rfl, h2⟩
    exact ⟨.inl ⟨rfl, rfl, rfl⟩, rfl, h2⟩)) (fun w1 ⟨_, _, _, hg⟩ => hg.whole HSt.out (by omega) (by omega)) (by omega) (by omega) (by omega) (by omega)
  refine hwi.mono ?_
  rintro e w3 ⟨he, w1, ⟨_, ht, hs, hg⟩, hg3⟩
  rcases he with ⟨_, _, rfl⟩ | ⟨h0, _⟩
  · go_wp2_with fail
    go_end0
    have hg4 := Gb2.before (.left (gb_trans HG3.out (gb_of_below (some p) hbb))) hg (by omega)
    refine ⟨rfl, ⟨_, by omega, HT.out _ _ _ W.heap.size ht hg3 (by omega) (by omega)⟩, ?_, hg4.new hg3 (by omega)⟩
    exact ((hg.sc (HS23.out.below hbb) (by omega) hpX)).grown hg3 (by simp only [ne_eq, Option.some.injEq]; omega) (fun g e => by injection e with e; omega)
  · exact absurd rfl h0
end Go.Proofs.YtebgmfjgapmpfaaGreatDoor
