/- Small laws on memory: blocks known whole, worlds that grow, for every program. -/
import Derived.Test.YtebgmfjgapmpfabDoorRows
import Derived.WalkKit
import Derived.Laws.OwnMore
import Derived.Laws.Rows
import Derived.Deep.Draws
import Derived.Laws.BytesArg
import Derived.Laws.Strings
import Derived.Laws.BytesString
import Derived.Lib.Hide
import Derived.LoopTactic
import Derived.OwnWalk
import Derived.Deep.AppendLies
import Derived.KernelRfl
import Derived.Lib.AppendStr
import Derived.Deep.RegionHeld3
import Derived.Deep.DeepMust
import Derived.Laws.MathBits
import Derived.Laws.BitsAll
import Derived.Laws.BitsLemmas
namespace Go.Proofs.YtebgmfjgapmpfabDoor
set_option linter.unusedVariables false
open Go.RowKit

/-- Block g is the cells cs of element type t, all of them writable. -/
def Whole (w : World) (g : Nat) (t : TypeId) (cs : Array Value) : Prop := w.heap[g]? = some (.cells cs t (0, 0))

theorem Whole.lt {w : World} {g : Nat} {t : TypeId} {cs : Array Value} (h : Whole w g t cs) : g < w.heap.size := by
  have h' : w.heap[g]? = some (.cells cs t (0, 0)) := h
  exact (Array.getElem?_eq_some_iff.1 h').1
theorem Whole.cell {w : World} {g : Nat} {t : TypeId} {cs : Array Value} (h : Whole w g t cs) (i : Nat) : w.cell? ⟨g, i, none⟩ = cs[i]? := cell_of_row w g i cs t (0, 0) h
theorem Whole.frozen {w : World} {g : Nat} {t : TypeId} {cs : Array Value} (h : Whole w g t cs) (i : Nat) : w.frozen? ⟨g, i, none⟩ = false := frozen_of_row w g i cs t h
theorem Whole.made (w : World) (t : TypeId) (cs : Array Value) : Whole (w.alloc (.cells cs t)) w.heap.size t cs := heap_alloc_new w _
theorem Whole.drew {w : World} {g : Nat} {t : TypeId} {cs : Array Value} (h : Whole w g t cs) : Whole w.drew g t cs := h
theorem Whole.alloc {w : World} {g : Nat} {t : TypeId} {cs : Array Value} (h : Whole w g t cs) (o : Obj) : Whole (w.alloc o) g t cs := (Below.heap_alloc w o g h.lt).trans h
theorem Whole.put {w : World} {g : Nat} {t : TypeId} {cs : Array Value} (h : Whole w g t cs) (i : Nat) (u : Value) : Whole (w.setCell ⟨g, i, none⟩ u) g t (cs.setIfInBounds i u) := by
  have h' : w.heap[g]? = some (.cells cs t (0, 0)) := h
  show (w.setCell ⟨g, i, none⟩ u).heap[g]? = _
  simp [World.setCell, Array.getElem?_modify, h']
theorem Whole.far {w : World} {g : Nat} {t : TypeId} {cs : Array Value} (h : Whole w g t cs) {p : Addr} (hp : g ≠ p.block) (u : Value) : Whole (w.setCell p u) g t cs := (heap_setCell_other w p g u hp).trans h
theorem Whole.grown {w w' : World} {g : Nat} {t : TypeId} {cs : Array Value} {row : Option Nat} (h : Whole w g t cs) (hg : w.grownBy w' row) (hr : some g ≠ row) : Whole w' g t cs := (hg.block g h.lt hr).trans h
theorem Whole.below {w w' : World} {g : Nat} {t : TypeId} {cs : Array Value} (h : Whole w g t cs) (hg : Below w.heap.size w w') : Whole w' g t cs := (hg.block g h.lt).trans h
theorem Whole.apart {w : World} {g g' : Nat} {t t' : TypeId} {cs cs' : Array Value} (h : Whole w g t cs) (h' : Whole w g' t' cs') (hne : t ≠ t') : g ≠ g' := by
  intro e
  subst e
  have e2 : some (Obj.cells cs t (0, 0)) = some (Obj.cells cs' t' (0, 0)) := h.symm.trans h'
  simp only [Option.some.injEq, Obj.cells.injEq] at e2
  exact hne e2.2.1

theorem gb_refl (w : World) (row : Option Nat) : w.grownBy w row := ⟨rfl, rfl, rfl, Nat.le_refl _, fun _ _ _ => rfl⟩
theorem gb_trans {w w1 w2 : World} {row : Option Nat} (h : w.grownBy w1 row) (k : w1.grownBy w2 row) : w.grownBy w2 row :=
  ⟨k.os.trans h.os, k.tape.trans h.tape, k.output.trans h.output, Nat.le_trans h.size k.size, fun i hi hr => (k.block i (Nat.lt_of_lt_of_le hi h.size) hr).trans (h.block i hi hr)⟩
theorem gb_any {w w1 : World} (row : Option Nat) (h : w.grownBy w1 none) : w.grownBy w1 row := ⟨h.os, h.tape, h.output, h.size, fun i hi _ => h.block i hi (by simp)⟩
theorem gb_of_below {w w1 : World} (row : Option Nat) (h : Below w.heap.size w w1) : w.grownBy w1 row := ⟨h.os, h.tape, h.output, h.size, fun i hi _ => h.block i hi⟩
theorem below_of_gb {w w1 : World} (h : w.grownBy w1 none) : Below w.heap.size w w1 := ⟨h.os, h.tape, h.output, h.size, fun i hi => h.block i hi (by simp)⟩
theorem gb_drew {w w1 : World} {row : Option Nat} (h : w.grownBy w1 row) : w.grownBy w1.drew row := ⟨h.os, h.tape, h.output, h.size, h.block⟩
theorem gb_alloc {w w1 : World} {row : Option Nat} (h : w.grownBy w1 row) (o : Obj) : w.grownBy (w1.alloc o) row :=
  gb_trans h (World.grownBy_alloc w1 o row)
/-- A store into the row that may be written, or into a new block. -/
theorem gb_put {w w1 : World} {row : Option Nat} (h : w.grownBy w1 row) {p : Addr} (hp : row = some p.block ∨ w.heap.size ≤ p.block) (u : Value) : w.grownBy (w1.setCell p u) row :=
  ⟨h.os, h.tape, h.output, by simpa using h.size, fun i hi hr => by
    have hne : i ≠ p.block := by
      intro e
      rcases hp with hp | hp
      · exact hr (by rw [hp, e])
      · omega
    exact (heap_setCell_other w1 p i u hne).trans (h.block i hi hr)⟩
/-- The row was new, or what was written before is out of sight: seen from the smaller world nothing old has turned. -/
theorem gb_new {w w1 : World} {g : Nat} (h : w.grownBy w1 (some g)) (hg : w.heap.size ≤ g) (row : Option Nat) : w.grownBy w1 row :=
  ⟨h.os, h.tape, h.output, h.size, fun i hi _ => h.block i hi (fun e => by simp only [Option.some.injEq] at e; omega)⟩
/-- Seen from the world before a block of one's own was made. -/
theorem gb_before {w w1 w2 : World} {row : Option Nat} {r2 : Option Nat} (h : w.grownBy w1 row) (k : w1.grownBy w2 r2) (hr : ∀ g, r2 = some g → row = some g ∨ w.heap.size ≤ g) : w.grownBy w2 row :=
  ⟨k.os.trans h.os, k.tape.trans h.tape, k.output.trans h.output, Nat.le_trans h.size k.size, fun i hi hne => (k.block i (Nat.lt_of_lt_of_le hi h.size) (fun e => by
    rcases hr i e.symm with e2 | e2
    · exact hne e2.symm
    · omega)).trans (h.block i hi hne)⟩
/-- Two cells of one block, both written. -/
theorem two_put {w w1 : World} {b : Nat} {t : TypeId} {x y u v : Value} (hb : Whole w b t #[x, y]) (hb1 : Below w.heap.size w w1) :
    Whole ((w1.setCell ⟨b, 0, none⟩ u).setCell ⟨b, 1, none⟩ v) b t #[u, v] ∧ w.grownBy ((w1.setCell ⟨b, 0, none⟩ u).setCell ⟨b, 1, none⟩ v) (some b) := by
  have h1 : Whole ((w1.setCell ⟨b, 0, none⟩ u).setCell ⟨b, 1, none⟩ v) b t ((#[x, y].setIfInBounds 0 u).setIfInBounds 1 v) := ((hb.below hb1).put 0 u).put 1 v
  have h2 : w.grownBy (w1.setCell ⟨b, 0, none⟩ u) (some b) := gb_put (p := ⟨b, 0, none⟩) (gb_of_below (some b) hb1) (.inl rfl) u
  have h3 : w.grownBy ((w1.setCell ⟨b, 0, none⟩ u).setCell ⟨b, 1, none⟩ v) (some b) := gb_put (p := ⟨b, 1, none⟩) h2 (.inl rfl) v
  exact ⟨h1, h3⟩
theorem ret_int {k : IntKind} {a b : Int} (h : a = b) : Ending.returned (.int k a) = .returned (.int k b) := by rw [h]
end Go.Proofs.YtebgmfjgapmpfabDoor

/- Strings as lists of bytes. No program here. -/
namespace Go.Proofs.YtebgmfjgapmpfabDoor
set_option linter.unusedVariables false

theorem u8_ext {a b : UInt8} (h : a.toNat = b.toNat) : a = b := UInt8.toNat_inj.1 h
/-- A string of bytes. -/
def S (l : List UInt8) : ByteArray := ⟨l.toArray⟩
theorem S_size (l : List UInt8) : (S l).size = l.length := by simp [S, ByteArray.size]
theorem S_list (l : List UInt8) : (S l).data.toList = l := by simp [S]
theorem S_toList (l : List UInt8) : (S l).toList = l := by rw [ByteArray.toList_eq]; exact S_list l
theorem S_of (s : ByteArray) : S s.data.toList = s := by cases s; simp [S]
theorem S_inj {a b : List UInt8} (h : S a = S b) : a = b := by
  have := congrArg (fun s => s.data.toList) h
  simpa [S] using this
theorem S_append (a b : List UInt8) : S a ++ S b = S (a ++ b) := by
  apply ByteArray.ext
  simp [S]
theorem S_extract (l : List UInt8) (i j : Nat) : (S l).extract i j = S ((l.drop i).take (j - i)) := by
  apply ByteArray.ext
  apply Array.toList_inj.1
  simp [S, List.extract]
theorem S_get (l : List UInt8) (i : Nat) (h : i < (S l).size) : (S l)[i] = l[i]'(by rw [S_size] at h; exact h) := by
  show (S l).data[i] = _
  simp [S]
/-- Bytes as numbers. -/
def nums (l : List UInt8) : List Int := l.map fun c => (c.toNat : Int)
theorem nums_length (l : List UInt8) : (nums l).length = l.length := by simp [nums]
theorem nums_append (a b : List UInt8) : nums (a ++ b) = nums a ++ nums b := by simp [nums]
theorem strOfNums_nums (l : List UInt8) : strOfNums (nums l) = S l := by
  unfold strOfNums nums S
  congr 2
  rw [List.map_map]
  conv => rhs; rw [← List.map_id l]
  apply List.map_congr_left
  intro c _
  simp
end Go.Proofs.YtebgmfjgapmpfabDoor

/- Slices that read as a list of values; slices of bytes as strings. -/
namespace Go.Proofs.YtebgmfjgapmpfabDoor
set_option linter.unusedVariables false
open Go.RowKit

/-- The slice at A reads as the values vs, in blocks below B. -/
def Lies (w : World) (B : Nat) (A : Option Addr) (vs : List Value) : Prop :=
  ∀ i v, vs[i]? = some v → ∃ b off, A = some ⟨b, off, none⟩ ∧ b < B ∧ w.cell? ⟨b, off + i, none⟩ = some v

theorem Lies.nil {w : World} {B : Nat} {A : Option Addr} : Lies w B A [] := fun i v h => by simp at h
theorem Lies.more {w : World} {B B' : Nat} {A : Option Addr} {vs : List Value} (h : Lies w B A vs) (hb : B ≤ B') : Lies w B' A vs := fun i v hv => by
  obtain ⟨b, off, e, h1, h2⟩ := h i v hv
  exact ⟨b, off, e, by omega, h2⟩
theorem Lies.below {w w' : World} {B B' : Nat} {A : Option Addr} {vs : List Value} (h : Lies w B A vs) (hb : Below B' w w') (hB : B ≤ B') : Lies w' B A vs := fun i v hv => by
  obtain ⟨b, off, e, h1, h2⟩ := h i v hv
  exact ⟨b, off, e, h1, (hb.cell (p := ⟨b, off + i, none⟩) (by show b < _; omega)).trans h2⟩
theorem Lies.grown {w w' : World} {B : Nat} {A : Option Addr} {vs : List Value} {row : Option Nat} (h : Lies w B A vs) (hg : w.grownBy w' row) (hB : B ≤ w.heap.size) (hr : ∀ g, row = some g → B ≤ g) : Lies w' B A vs := fun i v hv => by
  obtain ⟨b, off, e, h1, h2⟩ := h i v hv
  refine ⟨b, off, e, h1, (World.cell?_of_block (a := ⟨b, off + i, none⟩) (hg.block b (by omega) ?_)).trans h2⟩
  intro e'
  have := hr b e'.symm
  omega
theorem Lies.at_ {w : World} {B : Nat} {A : Option Addr} {vs : List Value} (h : Lies w B A vs) {i : Nat} (hi : i < vs.length) : ∃ b off, A = some ⟨b, off, none⟩ ∧ b < B ∧ w.cell? ⟨b, off + i, none⟩ = some vs[i] :=
  h i _ (List.getElem?_eq_getElem hi)
theorem Lies.cut {w : World} {B : Nat} {A : Option Addr} {vs : List Value} (h : Lies w B A vs) (k : Nat) : Lies w B (A.map fun a => ⟨a.block, a.off + k, none⟩) (vs.drop k) := fun i v hv => by
  rw [List.getElem?_drop] at hv
  obtain ⟨b, off, rfl, h1, h2⟩ := h _ v hv
  exact ⟨b, off + k, rfl, h1, by rw [Nat.add_assoc]; exact h2⟩
theorem Lies.take {w : World} {B : Nat} {A : Option Addr} {vs : List Value} (h : Lies w B A vs) (k : Nat) : Lies w B A (vs.take k) := fun i v hv => by
  rw [List.getElem?_take] at hv
  split at hv
  · exact h i v hv
  · cases hv

/-- A row of the call's own reads as its values. -/
theorem lies_own {w : World} {base n : Nat} {e : TypeId} {v : Value} {vs : List Value} (h : w.ownsRow base e 1 v n vs) :
    ∃ A c, v = .slice A n c ∧ n ≤ c ∧ c ≤ maxLen ∧ Lies w w.heap.size A vs ∧ (∀ a, A = some a → base ≤ a.block ∧ a.block < w.heap.size) := by
  obtain ⟨h1, h2⟩ := h
  rcases h2 with ⟨rfl, h2⟩ | ⟨g, cap, cur, rfl, hg, hh, hc, hm, hs, ht⟩
  · have hL : vs = [] := List.eq_nil_of_length_eq_zero (by omega)
    subst hL
    subst h2
    exact ⟨none, 0, rfl, by simp, by simp, Lies.nil, fun a e => by cases e⟩
  · have hlt : g < w.heap.size := (Array.getElem?_eq_some_iff.1 hh).1
    refine ⟨_, cap, rfl, hc, hm, ?_, fun a e => by simp only [Option.some.injEq] at e; subst e; exact ⟨hg, hlt⟩⟩
    intro i u hu
    refine ⟨g, 0, rfl, hlt, ?_⟩
    rw [Nat.zero_add, cell_of_row w g i cur _ (0, 0) hh]
    rw [← ht] at hu
    rw [List.getElem?_take] at hu
    split at hu
    · simpa using hu
    · cases hu

/-- Bytes as values. -/
def cells (l : List Int) : List Value := l.map (.int .u8)
theorem cells_length (l : List Int) : (cells l).length = l.length := by simp [cells]
theorem cells_get {l : List Int} {i : Nat} {c : Int} (h : l[i]? = some c) : (cells l)[i]? = some (.int .u8 c) := by simp [cells, h]
theorem cells_snoc (l : List Int) (c : Int) : cells (l ++ [c]) = cells l ++ [.int .u8 c] := by simp [cells]
theorem Lies.byte {w : World} {B : Nat} {A : Option Addr} {l : List Int} (h : Lies w B A (cells l)) {i : Nat} {c : Int} (hc : l[i]? = some c) : ∃ b off, A = some ⟨b, off, none⟩ ∧ b < B ∧ w.cell? ⟨b, off + i, none⟩ = some (.int .u8 c) :=
  h i _ (cells_get hc)

/-- string(b). -/
theorem str_lies {P : Program} {w : World} {B : Nat} {A : Option Addr} {l : List Int} (h : Lies w B A (cells l)) (hl : 0 < l.length) (c : Nat) {src e : TypeId} (hs : P.underlying src = some (.slice e)) (he : P.underlying e = some (.int .u8)) :
    ∀ dst, P.underlying dst = some .string → (convert src dst (.slice A l.length c)).run P w = .ok (.string (strOfNums l)) w := by
  obtain ⟨b, off, rfl, _, _⟩ := h.byte (List.getElem?_eq_getElem hl)
  refine run_convert_bytes_arg w src e hs he b off l.length c l rfl ?_
  intro i hi
  obtain ⟨b', off', e', _, h2⟩ := h.byte (List.getElem?_eq_getElem hi)
  simp only [Option.some.injEq, Addr.mk.injEq] at e'
  obtain ⟨rfl, rfl, _⟩ := e'
  rw [h2]
  simp [List.getD, List.getElem?_eq_getElem hi]

/-- What a function that makes bytes hands back: the bytes l, in a row of its own. -/
def Bytes (l : List Int) (w : World) (e : Ending) (w' : World) : Prop :=
  ∃ A c, e = .returned (.slice A l.length c) ∧ l.length ≤ c ∧ c ≤ maxLen ∧ Lies w' w'.heap.size A (cells l) ∧ (∀ a, A = some a → w.heap.size ≤ a.block ∧ a.block < w'.heap.size) ∧ Below w.heap.size w w'

theorem bytes_own {w w' : World} {n : Nat} {v : Value} {l : List Int} (h : w'.ownsRow w.heap.size 5 1 v n (cells l)) (hn : l.length = n) (hb : Below w.heap.size w w') : Bytes l w (.returned v) w' := by
  obtain ⟨A, c, rfl, h1, h2, h3, h4⟩ := lies_own h
  subst hn
  exact ⟨A, c, rfl, h1, h2, h3, h4, hb⟩
theorem bytes_of {w w' : World} {v : Value} {l l' : List Int} (h : Bytes l w (.returned v) w') (e : l = l') : Bytes l' w (.returned v) w' := e ▸ h
theorem infoB : (Tryd.prog.info? 5).map (fun i => (i.zero, i.size, i.bytes)) = some (some (.int .u8 0), 1, 1) := by kernel_rfl

/-- append of a new block of bytes onto a row of bytes of the call's own. -/
theorem wp_app {w : World} {o : Oper} {a : Act} {K : Act → World → Prop} {Q : Exit → Act → World → Prop} (s x : Operand)
    (ho : o.op = .call { callee := .builtin .append, args := #[s, x], argTypes := #[41, 41] })
    (base : Nat) (v : Value) (n : Nat) (xs : List Int) (hs : a.eval s = v) (hown : w.ownsRow base 5 1 v n (cells xs))
    (g m : Nat) (news : List Int) (hx : a.eval x = .slice (some ⟨g, 0, none⟩) m m) (hl : news.length = m) (hg : w.heap[g]? = some (.cells (cells news).toArray 5 (0, 0)))
    (hm : 0 < m) (hb : n + m ≤ 1000000) (hbase : base ≤ w.heap.size)
    (h : ∀ v' w', w'.ownsRow base 5 1 v' (n + m) (cells (xs ++ news)) → w.grownBy w' v.ownBlock → K (a.put o.dst v') w') : o.wp Tryd.prog a w K Q := by
  obtain ⟨i0, hi0, hz0, hz1, hz2⟩ := info_parts infoB
  refine wp_append_lies w s x _ ho base 5 i0 _ 1 1 Tryd.underlying41 hi0 hz0 hz1 hz2 rfl (by omega) v n (cells xs) hs hown ⟨g, 0, none⟩ m m (cells news) hx (by rw [cells_length]; omega) ?_ ?_ hm (by unfold maxLen; omega) (by omega) hbase _ rfl (fun g cap w' h2 h3 _ _ => h _ w' (by unfold cells at *; rw [List.map_append]; exact h2) h3)
  · exact World.news_of_block hg
  · intro u hu
    obtain ⟨c, _, rfl⟩ := List.mem_map.1 hu
    rfl
theorem wpList_app {w : World} {ops : Array Oper} {rest : List Oper} {o : Oper} {a : Act} {Q : Exit → Act → World → Prop} (hgd : o.guard = none) (s x : Operand)
    (ho : o.op = .call { callee := .builtin .append, args := #[s, x], argTypes := #[41, 41] })
    (base : Nat) (v : Value) (n : Nat) (xs : List Int) (hs : a.eval s = v) (hown : w.ownsRow base 5 1 v n (cells xs))
    (g m : Nat) (news : List Int) (hx : a.eval x = .slice (some ⟨g, 0, none⟩) m m) (hl : news.length = m) (hg : w.heap[g]? = some (.cells (cells news).toArray 5 (0, 0)))
    (hm : 0 < m) (hb : n + m ≤ 1000000) (hbase : base ≤ w.heap.size)
    (h : ∀ v' w', w'.ownsRow base 5 1 v' (n + m) (cells (xs ++ news)) → w.grownBy w' v.ownBlock → wpList Tryd.prog ops Q rest (a.put o.dst v') w') : wpList Tryd.prog ops Q (o :: rest) a w :=
  wpList_plain hgd fun _ hK => wp_app s x ho base v n xs hs hown g m news hx hl hg hm hb hbase fun v' w' h2 h3 => hK _ _ (h v' w' h2 h3)
/-- At a step of a region that draws its order. -/
theorem step_app {w : World} {ops : Array Oper} {o : Oper} {a : Act} {K : Act → World → Prop} {Q : Exit → Act → World → Prop} {E : Prop} (hgd : o.guard = none) (s x : Operand)
    (ho : o.op = .call { callee := .builtin .append, args := #[s, x], argTypes := #[41, 41] })
    (base : Nat) (v : Value) (n : Nat) (xs : List Int) (hs : a.eval s = v) (hown : w.ownsRow base 5 1 v n (cells xs))
    (g m : Nat) (news : List Int) (hx : a.eval x = .slice (some ⟨g, 0, none⟩) m m) (hl : news.length = m) (hg : w.heap[g]? = some (.cells (cells news).toArray 5 (0, 0)))
    (hm : 0 < m) (hb : n + m ≤ 1000000) (hbase : base ≤ w.heap.size)
    (h : ∀ v' w', w'.ownsRow base 5 1 v' (n + m) (cells (xs ++ news)) → w.grownBy w' v.ownBlock → K (a.put o.dst v') w') :
    if Region.wanted o (yielded ops a.tmps) = true then Oper.wp Tryd.prog o a w K Q else E := by
  have hw : Region.wanted o (yielded ops a.tmps) = true := by simp [Region.wanted, hgd]
  rw [if_pos hw]
  exact wp_app s x ho base v n xs hs hown g m news hx hl hg hm hb hbase h
theorem below_app {w wr w2 : World} {e : TypeId} {b : Value} {k : Nat} {vs : List Value} (hb : Below w.heap.size w wr) (ho : wr.ownsRow w.heap.size e 1 b k vs) {w1 : World} (h1 : Below wr.heap.size wr w1) (hg : w1.grownBy w2 b.ownBlock) : Below w.heap.size w w2 :=
  Below.grown (hb.trans (h1.mono hb.size)) hg (by have := hb.size; have := h1.size; omega) (fun g h => (ho.lt g h).1)

/-- string(b) of a row of bytes of the call's own, nil too. -/
theorem str_own {w : World} {base n : Nat} {v : Value} {o : List UInt8} (h : w.ownsRow base 5 1 v n (cells (nums o))) :
    ∃ A c, v = .slice A n c ∧ ∀ dst, Tryd.prog.underlying dst = some .string → (convert 41 dst (.slice A n c)).run Tryd.prog w = .ok (.string (S o)) w := by
  obtain ⟨A, c, rfl, _, _, hl, _⟩ := lies_own h
  refine ⟨A, c, rfl, ?_⟩
  have hn : n = o.length := by
    have := h.1
    rw [cells_length, nums_length] at this
    omega
  subst hn
  by_cases h0 : 0 < (nums o).length
  · have := str_lies hl h0 c Tryd.underlying41 Tryd.underlying5
    rw [strOfNums_nums, nums_length] at this
    exact this
  · have ho : o = [] := List.eq_nil_of_length_eq_zero (by rw [nums_length] at h0; omega)
    subst ho
    intro dst hd
    rw [run_convert_bytes_string w _ dst 5 _ _ c Tryd.underlying41 Tryd.underlying5 hd]
    have e : S [] = ByteArray.empty := rfl
    rw [e]
    cases A <;> simp [Conv.bytesToString, loadCells]
    all_goals rfl
end Go.Proofs.YtebgmfjgapmpfabDoor

/- Rows of bytes of the call's own, as lists of bytes: append of a new block, of a string, of what lies somewhere; string(b). -/
namespace Go.Proofs.YtebgmfjgapmpfabDoor
set_option linter.unusedVariables false
open Go.RowKit

/-- A row of the call's own that reads as these bytes. -/
def Row (w : World) (base : Nat) (v : Value) (xs : List UInt8) : Prop := w.ownsRow base 5 1 v xs.length (cells (nums xs))
theorem Row.nil (w : World) (base : Nat) : Row w base (.slice none 0 0) [] := World.ownsRow_nil w base _ 1
theorem Row.later {w w' : World} {base : Nat} {v : Value} {xs : List UInt8} (h : Row w base v xs) (hb : Below w.heap.size w w') : Row w' base v xs :=
  World.ownsRow.kept h (gb_of_below none hb) (by cases v.ownBlock with
    | none => exact .inl rfl
    | some k => exact .inr (by simp))
theorem Row.drew {w : World} {base : Nat} {v : Value} {xs : List UInt8} (h : Row w base v xs) : Row w.drew base v xs := h
theorem Row.alloc {w : World} {base : Nat} {v : Value} {xs : List UInt8} (h : Row w base v xs) (o : Obj) : Row (w.alloc o) base v xs := World.ownsRow.alloc h o
theorem Row.mono {w : World} {base base' : Nat} {v : Value} {xs : List UInt8} (h : Row w base v xs) (hb : base' ≤ base) : Row w base' v xs := by
  obtain ⟨h1, h2⟩ := h
  refine ⟨h1, ?_⟩
  rcases h2 with h2 | ⟨g, cap, cur, e, hg, r⟩
  · exact .inl h2
  · exact .inr ⟨g, cap, cur, e, Nat.le_trans hb hg, r⟩
theorem Row.below {w w' : World} {base : Nat} {v : Value} {xs : List UInt8} (h : Row w base v xs) (hB : base ≤ w.heap.size) (hg : w.grownBy w' v.ownBlock) : Below base w w' :=
  Below.grown (Below.refl _ _) hg hB (fun k hk => (World.ownsRow.lt h k hk).1)
/-- A block of bytes, all of them read; H is its number as the walk writes it. -/
theorem Row.made (w : World) (xs : List UInt8) (base H : Nat) (hH : w.heap.size = H) (hb : base ≤ H) (hl : xs.length ≤ 1000000) :
    Row (w.alloc (.cells (cells (nums xs)).toArray 5)) base (.slice (some ⟨H, 0, none⟩) xs.length xs.length) xs := by
  subst hH
  have hn : (cells (nums xs)).length = xs.length := by rw [cells_length, nums_length]
  refine ⟨by omega, .inr ⟨w.heap.size, xs.length, (cells (nums xs)).toArray, rfl, hb, heap_alloc_new w _, Nat.le_refl _, by unfold maxLen; omega, by simp [hn], ?_⟩⟩
  rw [List.take_of_length_le (by simp [hn])]

section
variable {w : World} {ops : Array Oper} {rest : List Oper} {o : Oper} {a : Act} {Q : Exit → Act → World → Prop} {K : Act → World → Prop}
/-- append of a new block of bytes. -/
theorem row_new (hgd : o.guard = none) (s x : Operand)
    (ho : o.op = .call { callee := .builtin .append, args := #[s, x], argTypes := #[41, 41] })
    (B : Nat) (v : Value) (xs : List UInt8) (hs : a.eval s = v) (hr : Row w B v xs)
    (g m : Nat) (news : List UInt8) (hx : a.eval x = .slice (some ⟨g, 0, none⟩) m m) (hl : news.length = m) (hg : w.heap[g]? = some (.cells (cells (nums news)).toArray 5 (0, 0)))
    (hm : 0 < m) (hb : xs.length + news.length ≤ 1000000) (hB : B ≤ w.heap.size)
    (h : ∀ v' w', Row w' B v' (xs ++ news) → Below B w w' → wpList Tryd.prog ops Q rest (a.put o.dst v') w') : wpList Tryd.prog ops Q (o :: rest) a w :=
  wpList_app hgd s x ho B v _ (nums xs) hs hr g m (nums news) hx (by rw [nums_length]; exact hl) hg hm (by omega) hB fun v' w' h2 h3 =>
    h v' w' (by unfold Row; rw [nums_append, List.length_append, hl]; exact h2) (Row.below hr hB h3)
set_option maxRecDepth 100000 in
/-- append of what lies somewhere and is not empty. -/
theorem row_lies (hgd : o.guard = none) (s x : Operand)
    (ho : o.op = .call { callee := .builtin .append, args := #[s, x], argTypes := #[41, 41] })
    (B : Nat) (v : Value) (xs : List UInt8) (hs : a.eval s = v) (hr : Row w B v xs)
    (A : Option Addr) (m c B' : Nat) (news : List UInt8) (hx : a.eval x = .slice A m c) (hl : news.length = m) (hn : Lies w B' A (cells (nums news)))
    (hm : 0 < m) (hb : xs.length + news.length ≤ 1000000) (hB : B ≤ w.heap.size)
    (h : ∀ v' w', Row w' B v' (xs ++ news) → Below B w w' → wpList Tryd.prog ops Q rest (a.put o.dst v') w') : wpList Tryd.prog ops Q (o :: rest) a w := by
  obtain ⟨i0, hi0, hz0, hz1, hz2⟩ := info_parts infoB
  have hcl : (cells (nums news)).length = m := by rw [cells_length, nums_length]; exact hl
  obtain ⟨b, off, rfl, _, _⟩ := hn.at_ (i := 0) (by omega)
  refine wpList_append_own _ hgd s x _ ho B 5 i0 _ 1 1 Tryd.underlying41 hi0 hz0 hz1 hz2 rfl (by omega) v _ _ hs hr ⟨b, off, none⟩ m c (cells (nums news)) hx (by omega) ?_ ?_ (by unfold maxLen; omega) (by omega) hB (fun v' w' h2 h3 _ => h v' w' ?_ (Row.below hr hB h3))
  · intro j u hu
    obtain ⟨b', off', e, _, h2⟩ := hn j u hu
    injection e with e
    injection e with e1 e2
    subst e1; subst e2
    rw [Go.WideShapes.add_plain]; exact h2
  · intro u hu
    unfold cells at hu
    obtain ⟨c, _, rfl⟩ := List.mem_map.1 hu
    rfl
  · unfold Row
    rw [nums_append, List.length_append, hl]
    unfold cells at *
    rw [List.map_append]
    exact h2
theorem strCells_S (t : List UInt8) : Lib.strCells (S t) = cells (nums t) := by
  unfold Lib.strCells cells nums S
  simp [List.map_map]
/-- append of a string. -/
theorem row_str (hgd : o.guard = none) (s x : Operand)
    (ho : o.op = .call { callee := .builtin .append, args := #[s, x], argTypes := #[41, 9] })
    (B : Nat) (v : Value) (xs : List UInt8) (hs : a.eval s = v) (hr : Row w B v xs) (t : List UInt8) (hx : a.eval x = .string (S t))
    (hb : xs.length + t.length ≤ 1000000) (hB : B ≤ w.heap.size)
    (h : ∀ v' w', Row w' B v' (xs ++ t) → Below B w w' → wpList Tryd.prog ops Q rest (a.put o.dst v') w') : wpList Tryd.prog ops Q (o :: rest) a w := by
  obtain ⟨i0, hi0, hz0, hz1, hz2⟩ := info_parts infoB
  have ht := S_size t
  refine Lib.wpList_append_own_string w hgd s x _ _ ho B 5 i0 Tryd.underlying41 Tryd.underlying9 hi0 hz0 hz1 hz2 v _ _ hs hr (S t) hx (by unfold maxLen; omega) (by omega) hB (fun v' w' h2 h3 _ => h v' w' ?_ (Row.below hr hB h3))
  rw [ht, strCells_S] at h2
  unfold Row
  rw [nums_append, List.length_append]
  unfold cells at *
  rw [List.map_append]
  exact h2
end

/-- string(b). -/
theorem Row.str {w : World} {base : Nat} {v : Value} {xs : List UInt8} (h : Row w base v xs) :
    ∃ A c, v = .slice A xs.length c ∧ ∀ dst, Tryd.prog.underlying dst = some .string → (convert 41 dst (.slice A xs.length c)).run Tryd.prog w = .ok (.string (S xs)) w := str_own h
/-- Bytes that a function hands back, in a row of its own. -/
def BytesL (l : List UInt8) (w : World) (e : Ending) (w' : World) : Prop := ∃ v, e = .returned v ∧ Row w' w.heap.size v l ∧ Below w.heap.size w w'
theorem Row.lies {w : World} {base : Nat} {v : Value} {xs : List UInt8} (h : Row w base v xs) : ∃ A c, v = .slice A xs.length c ∧ Lies w w.heap.size A (cells (nums xs)) := by
  obtain ⟨A, c, e, _, _, h3, _⟩ := lies_own h
  exact ⟨A, c, e, h3⟩
/-- string(b) of what a function handed back. -/
theorem str_lies' {w : World} {B : Nat} {A : Option Addr} {l : List UInt8} (h : Lies w B A (cells (nums l))) (hl : 0 < l.length) (c : Nat) :
    ∀ dst, Tryd.prog.underlying dst = some .string → (convert 41 dst (.slice A l.length c)).run Tryd.prog w = .ok (.string (S l)) w := by
  have := str_lies h (by rw [nums_length]; exact hl) c Tryd.underlying41 Tryd.underlying5
  rw [strOfNums_nums, nums_length] at this
  exact this
end Go.Proofs.YtebgmfjgapmpfabDoor

/- A region that draws its order, walked step by step: what is held of the world may grow on the way. -/
namespace Go.Proofs.YtebgmfjgapmpfabDoor
set_option linter.unusedVariables false
open Go.RowKit

section
variable {P : Program} {ops : Array Oper} {Q : Exit → Act → World → Prop} {md : Region.Mode} {S S' : World → Prop}
/-- More may be held from here on. -/
theorem held_imp (hS : ∀ w, S' w → S w) : ∀ (fuel : Nat) (listed : Array Bool) (a : Act) (w : World), wpAnyH P md ops Q S' fuel listed a w → wpAnyH P md ops Q S fuel listed a w
  | 0, _, _, _, h => h
  | fuel + 1, _, _, _, h => ⟨h.1, fun i hi => wpOp_mono (fun _ _ h2 => ⟨hS _ h2.1, held_imp hS fuel _ _ _ h2.2⟩) (h.2 i hi)⟩
/-- Operation i first: it yields v in every world of which S is held. -/
theorem heldTake {i : Nat} {oi : Oper} {v : Value} {fuel : Nat} {listed : Array Bool} {a : Act} {w : World} (hi : ops[i]? = some oi)
    (hs : Region.noSelect ops = true) (hf : Region.free md ops listed i = true) (hr : (Region.ready md ops listed).contains i = true)
    (hS : S w) (hy : YieldsIf P ops S oi v a)
    (h : wpAnyH P md ops (NoPanic Q) S fuel (listed.setIfInBounds i true) (a.put oi.dst v) w) : wpAnyH P md ops (NoPanic Q) S (fuel + 1) listed a w :=
  wpAnyH_take hi hs hf hr (fun _ _ _ h => h) hy hS h
end

/-- Bytes handed back that stay what they are. -/
def Stays (A : Option Addr) (_c : Nat) (l : List UInt8) (W : World) : Prop := ∃ B, B ≤ W.heap.size ∧ Lies W B A (cells (nums l))
theorem Stays.on {A : Option Addr} {c : Nat} {l : List UInt8} {w1 w2 : World} (h : Stays A c l w1) (hb : Below w1.heap.size w1 w2) : Stays A c l w2 := by
  obtain ⟨B, h1, h2⟩ := h
  exact ⟨B, Nat.le_trans h1 hb.size, h2.below hb h1⟩
theorem Stays.str {A : Option Addr} {c : Nat} {l : List UInt8} {w : World} (h : Stays A c l w) (hl : 0 < l.length) :
    ∀ dst, Tryd.prog.underlying dst = some .string → (convert 41 dst (.slice A l.length c)).run Tryd.prog w = .ok (.string (S l)) w := by
  obtain ⟨B, _, h2⟩ := h
  exact str_lies' h2 hl c
/-- Calls that leave what there was, where a fact is held that stays as long as nothing old turns. -/
theorem held_any {T : World → Prop} (hT : ∀ W W', T W → Below W.heap.size W W' → T W') {K : Nat} {args : Array Value} {R : Ending → Prop} (hN : ∀ w, Calls Tryd.prog K args w fun e w' => R e ∧ Below w.heap.size w w') {W : World} (h : T W) :
    Calls Tryd.prog K args W fun e w' => R e ∧ T w' := (hN W).mono fun _ _ ⟨h1, h2⟩ => ⟨h1, hT _ _ h h2⟩
/-- The callee hands bytes back. -/
theorem held_any_bytes {T : World → Prop} (hT : ∀ W W', T W → Below W.heap.size W W' → T W') {K : Nat} {args : Array Value} {l : List UInt8} (hN : ∀ w, Calls Tryd.prog K args w (BytesL l w)) (hl : 0 < l.length) {W : World} (h : T W) :
    Calls Tryd.prog K args W fun e w' => ∃ A c, e = .returned (.slice A l.length c) ∧ T w' ∧ Stays A c l w' ∧ (∀ dst, Tryd.prog.underlying dst = some .string → (convert 41 dst (.slice A l.length c)).run Tryd.prog w' = .ok (.string (S l)) w') :=
  (hN W).mono fun _ _ ⟨_, h1, h2, h3⟩ => by
    obtain ⟨A, c, rfl, h4⟩ := h2.lies
    exact ⟨A, c, h1, hT _ _ h h3, ⟨_, Nat.le_refl _, h4⟩, Stays.str ⟨_, Nat.le_refl _, h4⟩ hl⟩
/-- The bytes stay too. -/
theorem held_any2 {T : World → Prop} (hT : ∀ W W', T W → Below W.heap.size W W' → T W') {A : Option Addr} {c : Nat} {l : List UInt8} (hl : 0 < l.length) {K : Nat} {args : Array Value} {R : Ending → Prop} (hN : ∀ w, Calls Tryd.prog K args w fun e w' => R e ∧ Below w.heap.size w w') {W : World}
    (h : T W ∧ Stays A c l W ∧ (∀ dst, Tryd.prog.underlying dst = some .string → (convert 41 dst (.slice A l.length c)).run Tryd.prog W = .ok (.string (S l)) W)) :
    Calls Tryd.prog K args W fun e w' => R e ∧ T w' ∧ Stays A c l w' ∧ (∀ dst, Tryd.prog.underlying dst = some .string → (convert 41 dst (.slice A l.length c)).run Tryd.prog w' = .ok (.string (S l)) w') :=
  (hN W).mono fun _ _ ⟨h1, h2⟩ => ⟨h1, hT _ _ h.1 h2, h.2.1.on h2, (h.2.1.on h2).str hl⟩
end Go.Proofs.YtebgmfjgapmpfabDoor

/- The names of types, as lists of bytes; types.names in the world; types.Name, types.Byte, creelref04.Name. -/
namespace Go.Proofs.YtebgmfjgapmpfabDoor
set_option linter.unusedVariables false
open Go.RowKit

/-- The name of a type, by its byte's number. -/
def nameZ (n : Int) : List UInt8 :=
  if n = 127 then [105, 51, 50] else if n = 126 then [105, 54, 52] else if n = 125 then [102, 51, 50] else if n = 124 then [102, 54, 52] else if n = 112 then [102, 117, 110, 99, 114, 101, 102] else [63]
/-- The byte of a name, or 0. -/
def byteZ (s : List UInt8) : Int :=
  if s = [105, 51, 50] then 127 else if s = [105, 54, 52] then 126 else if s = [102, 51, 50] then 125 else if s = [102, 54, 52] then 124 else if s = [102, 117, 110, 99, 114, 101, 102] then 112 else 0
theorem nameZ_len (n : Int) : 1 ≤ (nameZ n).length ∧ (nameZ n).length ≤ 7 := by
  unfold nameZ
  repeat' split
  all_goals simp
theorem byteZ_bd (s : List UInt8) : 0 ≤ byteZ s ∧ byteZ s ≤ 127 := by
  unfold byteZ
  repeat' split
  all_goals omega
/-- A byte from 1 on bears this name, which isn't the question mark: it is the name's byte. -/
theorem name_byte (s : List UInt8) (n : Int) (h1 : 1 ≤ n) : (nameZ n = s ∧ s ≠ [63]) ↔ byteZ s = n := by
  constructor
  · rintro ⟨rfl, h⟩
    unfold nameZ at h ⊢
    by_cases a1 : n = 127
    · subst a1; rfl
    by_cases a2 : n = 126
    · subst a2; rfl
    by_cases a3 : n = 125
    · subst a3; rfl
    by_cases a4 : n = 124
    · subst a4; rfl
    by_cases a5 : n = 112
    · subst a5; rfl
    rw [if_neg a1, if_neg a2, if_neg a3, if_neg a4, if_neg a5] at h
    exact absurd rfl h
  · intro h
    unfold byteZ at h
    by_cases a1 : s = [105, 51, 50]
    · subst a1; simp at h; subst h; decide
    by_cases a2 : s = [105, 54, 52]
    · subst a2; simp at h; subst h; decide
    by_cases a3 : s = [102, 51, 50]
    · subst a3; simp at h; subst h; decide
    by_cases a4 : s = [102, 54, 52]
    · subst a4; simp at h; subst h; decide
    by_cases a5 : s = [102, 117, 110, 99, 114, 101, 102]
    · subst a5; simp at h; subst h; decide
    rw [if_neg a1, if_neg a2, if_neg a3, if_neg a4, if_neg a5] at h
    omega

/-- What types.names holds. -/
def rowN : Array Value := #[.int .u8 127, .string (S [105, 51, 50]), .int .u8 126, .string (S [105, 54, 52]), .int .u8 125, .string (S [102, 51, 50]), .int .u8 124, .string (S [102, 54, 52]), .int .u8 112, .string (S [102, 117, 110, 99, 114, 101, 102])]
/-- The parts of the table. -/
def partN (k : Nat) : Int × List UInt8 := match k with
  | 0 => (127, [105, 51, 50])
  | 1 => (126, [105, 54, 52])
  | 2 => (125, [102, 51, 50])
  | 3 => (124, [102, 54, 52])
  | _ => (112, [102, 117, 110, 99, 114, 101, 102])
theorem nameZ_none {n : Int} (h : ∀ j, j < 5 → (partN j).1 ≠ n) : nameZ n = [63] := by
  have h0 := h 0 (by omega); have h1 := h 1 (by omega); have h2 := h 2 (by omega); have h3 := h 3 (by omega); have h4 := h 4 (by omega)
  simp only [partN] at h0 h1 h2 h3 h4
  unfold nameZ
  rw [if_neg (by omega), if_neg (by omega), if_neg (by omega), if_neg (by omega), if_neg (by omega)]
theorem nameZ_part (k : Nat) : nameZ (partN k).1 = (partN k).2 := by
  unfold partN; split <;> rfl
theorem byteZ_part (k : Nat) : byteZ (partN k).2 = (partN k).1 := by
  unfold partN; split <;> rfl
theorem byteZ_none {s : List UInt8} (h : ∀ j, j < 5 → (partN j).2 ≠ s) : byteZ s = 0 := by
  have h0 := h 0 (by omega); have h1 := h 1 (by omega); have h2 := h 2 (by omega); have h3 := h 3 (by omega); have h4 := h 4 (by omega)
  simp only [partN] at h0 h1 h2 h3 h4
  unfold byteZ
  rw [if_neg (fun e => h0 e.symm), if_neg (fun e => h1 e.symm), if_neg (fun e => h2 e.symm), if_neg (fun e => h3 e.symm), if_neg (fun e => h4 e.symm)]

theorem ret_str {a b : List UInt8} (h : a = b) : Ending.returned (.string (S a)) = .returned (.string (S b)) := by rw [h]

theorem ret_u8 {a b : Int} (h : a = b) : Ending.returned (.int .u8 a) = .returned (.int .u8 b) := by rw [h]
theorem S_beq (a b : List UInt8) : ((S a).toList == (S b).toList) = (a == b) := by rw [S_toList, S_toList]
end Go.Proofs.YtebgmfjgapmpfabDoor

/- types.Value, Values, Func; creelref04.Value, Values, Func. -/
namespace Go.Proofs.YtebgmfjgapmpfabDoor
set_option linter.unusedVariables false
open Go.RowKit

/-- api.OK is 0, ErrType 7, ErrFloat 8, ErrMany 29. -/
def valueZ (n : Int) : Int := if n = 127 ∨ n = 126 then 0 else if n = 125 ∨ n = 124 then 8 else 7
def valuesZ : List UInt8 → Int
  | [] => 0
  | c :: l => if valueZ c.toNat = 0 then valuesZ l else valueZ c.toNat
def funcZ (p r : List UInt8) : Int := if 1000 < p.length ∨ 1 < r.length then 29 else if valuesZ p = 0 then valuesZ r else valuesZ p
theorem valuesZ_append (p r : List UInt8) : valuesZ (p ++ r) = if valuesZ p = 0 then valuesZ r else valuesZ p := by
  induction p with
  | nil => simp [valuesZ]
  | cons c l ih =>
    by_cases h : valueZ c.toNat = 0
    · simp [valuesZ, h, ih]
    · simp [valuesZ, h]
theorem values_step {l : List UInt8} {k : Nat} (h : k < l.length) : ∃ c : UInt8, (∀ hh : k < (S l).size, (S l)[k]'hh = c) ∧ valuesZ (l.drop k) = if valueZ c.toNat = 0 then valuesZ (l.drop (k + 1)) else valueZ c.toNat :=
  ⟨l[k], fun hh => S_get l k hh, by rw [List.drop_eq_getElem_cons h]; rfl⟩

theorem value_any (n : Int) (w : World) : Calls Tryd.prog 60 #[.int .u8 n] w fun e w' => e = .returned (.int .i64 (valueZ n)) ∧ w = w' := by
  by_cases a1 : n = 127
  · subst a1
    go_enter Tryd.func60, Tryd.ntmps60
    go_wp2
    go_ret
    exact ⟨rfl, rfl⟩
  by_cases a2 : n = 126
  · subst a2
    go_enter Tryd.func60, Tryd.ntmps60
    go_wp2
    go_ret
    exact ⟨rfl, rfl⟩
  by_cases a3 : n = 125
  · subst a3
    go_enter Tryd.func60, Tryd.ntmps60
    go_wp2
    go_ret
    exact ⟨rfl, rfl⟩
  by_cases a4 : n = 124
  · subst a4
    go_enter Tryd.func60, Tryd.ntmps60
    go_wp2
    go_ret
    exact ⟨rfl, rfl⟩
  have HE := Lib.hid (show valueZ n = 7 by unfold valueZ; rw [if_neg (by omega), if_neg (by omega)])
  have b1 : (n == 127) = false := by simpa using a1
  have b2 : (n == 126) = false := by simpa using a2
  have b3 : (n == 125) = false := by simpa using a3
  have b4 : (n == 124) = false := by simpa using a4
  clear a1 a2 a3 a4
  go_enter Tryd.func60, Tryd.ntmps60
  go_wp2
  go_ret
  exact ⟨ret_int HE.out.symm, rfl⟩
theorem refValue_any (n : Int) (w : World) : Calls Tryd.prog 68 #[.int .i64 n] w fun e w' => e = .returned (.int .i64 (valueZ n)) ∧ w = w' := by
  by_cases a1 : n = 127
  · subst a1
    go_enter Tryd.func68, Tryd.ntmps68
    go_wp2
    go_ret
    exact ⟨rfl, rfl⟩
  by_cases a2 : n = 126
  · subst a2
    go_enter Tryd.func68, Tryd.ntmps68
    go_wp2
    go_ret
    exact ⟨rfl, rfl⟩
  by_cases a3 : n = 125
  · subst a3
    go_enter Tryd.func68, Tryd.ntmps68
    go_wp2
    go_ret
    exact ⟨rfl, rfl⟩
  by_cases a4 : n = 124
  · subst a4
    go_enter Tryd.func68, Tryd.ntmps68
    go_wp2
    go_ret
    exact ⟨rfl, rfl⟩
  have HE := Lib.hid (show valueZ n = 7 by unfold valueZ; rw [if_neg (by omega), if_neg (by omega)])
  have b1 : (n == 127) = false := by simpa using a1
  have b2 : (n == 126) = false := by simpa using a2
  have b3 : (n == 125) = false := by simpa using a3
  have b4 : (n == 124) = false := by simpa using a4
  clear a1 a2 a3 a4
  go_enter Tryd.func68, Tryd.ntmps68
  go_wp2
  go_ret
  exact ⟨ret_int HE.out.symm, rfl⟩

theorem wrap_byte (c : UInt8) : wrap64 (c.toNat : Int) = c.toNat := by
  have := c.toNat_lt
  unfold wrap64
  omega
/-- A function's type, by value. -/
def ftV (p r : List UInt8) : Value := .agg #[.string (S p), .string (S r)]
theorem below_box (w : World) (o : Obj) : Below w.heap.size w (w.alloc o) := (Below.refl _ _).alloc (Nat.le_refl _) _

end Go.Proofs.YtebgmfjgapmpfabDoor

/- Plain mathematics: the groups of seven bits of a number, its bits, where a varint ends. Of no program. -/
namespace Go.Proofs.YtebgmfjgapmpfabDoor
set_option linter.unusedVariables false

/-- Bit j of a number, of endless two's complement. -/
def bit (x : Int) (j : Nat) : Bool := x / 2 ^ j % 2 == 1

/-- The first n groups of seven bits, each but the last with 128. -/
def grp (x : Int) (n : Nat) : List Int := (List.range n).map fun i => x / 128 ^ i % 128 + if i + 1 < n then 128 else 0
/-- The first n groups, all of them with 128. -/
def grps (x : Int) (n : Nat) : List Int := (List.range n).map fun i => x / 128 ^ i % 128 + 128

theorem grp_length (x : Int) (n : Nat) : (grp x n).length = n := by simp [grp]
theorem grps_length (x : Int) (n : Nat) : (grps x n).length = n := by simp [grps]
theorem grps_snoc (x : Int) (n : Nat) : grps x (n + 1) = grps x n ++ [x / 128 ^ n % 128 + 128] := by simp [grps, List.range_succ]
theorem grp_snoc (x : Int) (n : Nat) : grp x (n + 1) = grps x n ++ [x / 128 ^ n % 128] := by
  unfold grp grps
  rw [List.range_succ, List.map_append]
  congr 1
  · apply List.map_congr_left
    intro i hi
    have := List.mem_range.1 hi
    rw [if_pos (by omega)]
  · simp
theorem grps_get (x : Int) (n i : Nat) (h : i < n) : (grps x n)[i]? = some (x / 128 ^ i % 128 + 128) := by simp [grps, h]

/-- The least number from 1 on at which F holds. -/
def Least (F : Nat → Prop) (n : Nat) : Prop := 1 ≤ n ∧ F n ∧ ∀ m, 1 ≤ m → m < n → ¬ F m
theorem Least.unique {F : Nat → Prop} {n m : Nat} (h : Least F n) (k : Least F m) : n = m := by
  rcases Nat.lt_trichotomy n m with g | g | g
  · exact absurd h.2.1 (k.2.2 n h.1 g)
  · exact g
  · exact absurd k.2.1 (h.2.2 m k.1 g)
theorem Least.le {F : Nat → Prop} {n m : Nat} (h : Least F n) (hm : 1 ≤ m) (hF : F m) : n ≤ m := by
  rcases Nat.lt_or_ge m n with g | g
  · exact absurd hF (h.2.2 m hm g)
  · exact g

/-- n groups are enough: without a sign, with one. -/
def fitU (x : Int) (n : Nat) : Prop := x / 128 ^ (n - 1) < 128
def fitS (x : Int) (n : Nat) : Prop := -64 ≤ x / 128 ^ (n - 1) ∧ x / 128 ^ (n - 1) < 64

theorem p2 (n : Nat) : (0 : Int) < 2 ^ n := Int.pow_pos (by omega)
theorem p128 (n : Nat) : (0 : Int) < 128 ^ n := Int.pow_pos (by omega)
theorem mono2 {a b : Nat} (h : a ≤ b) : (2 : Int) ^ a ≤ 2 ^ b := by
  have e : (2 : Int) ^ b = 2 ^ a * 2 ^ (b - a) := by rw [← Int.pow_add]; congr 1; omega
  have := Int.mul_le_mul_of_nonneg_left (show (1 : Int) ≤ 2 ^ (b - a) from p2 _) (Int.le_of_lt (p2 a))
  rw [e]; omega
theorem mono128 {a b : Nat} (h : a ≤ b) : (128 : Int) ^ a ≤ 128 ^ b := by
  have e : (128 : Int) ^ b = 128 ^ a * 128 ^ (b - a) := by rw [← Int.pow_add]; congr 1; omega
  have := Int.mul_le_mul_of_nonneg_left (show (1 : Int) ≤ 128 ^ (b - a) from p128 _) (Int.le_of_lt (p128 a))
  rw [e]; omega
theorem pow7 (n : Nat) : (2 : Int) ^ (7 * n) = 128 ^ n := by rw [Int.pow_mul]; rfl
theorem div_pow (x : Int) (a b : Nat) : x / 2 ^ a / 2 ^ b = x / 2 ^ (a + b) := by
  rw [Int.pow_add, Int.ediv_ediv_of_nonneg (Int.le_of_lt (p2 a))]
theorem div_pow128 (x : Int) (a b : Nat) : x / 128 ^ a / 128 ^ b = x / 128 ^ (a + b) := by
  rw [Int.pow_add, Int.ediv_ediv_of_nonneg (Int.le_of_lt (p128 a))]
theorem bit_div (x : Int) (a j : Nat) : bit (x / 2 ^ a) j = bit x (a + j) := by unfold bit; rw [div_pow]
theorem bit_zero (j : Nat) : bit 0 j = false := by simp [bit]
theorem neg_one_div (j : Nat) : (-1 : Int) / 2 ^ j = -1 := by
  have := p2 j
  rw [Int.ediv_eq_iff_of_pos this]
  constructor <;> omega
theorem bit_neg (j : Nat) : bit (-1) j = true := by unfold bit; rw [neg_one_div]; rfl

theorem fitU_ten (x : Int) (h : x < 18446744073709551616) : fitU x 10 := by
  show x / 9223372036854775808 < 128
  omega
theorem fitS_ten (x : Int) (h0 : -9223372036854775808 ≤ x) (h : x < 9223372036854775808) : fitS x 10 := by
  show -64 ≤ x / 9223372036854775808 ∧ x / 9223372036854775808 < 64
  omega

theorem two_bounds {m : Nat} {y : Int} (h1 : -2 ^ (m + 1) ≤ y) (h2 : y < 2 ^ (m + 1)) : -2 ^ m ≤ y / 2 ∧ y / 2 < 2 ^ m := by
  rw [Int.pow_succ] at h1 h2
  omega
/-- All bits up to one above the number are the same: it is 0 or -1. -/
theorem same_bits : ∀ (m : Nat) (y : Int) (t : Bool), -2 ^ m ≤ y → y < 2 ^ m → (∀ j, j ≤ m → bit y j = t) → y = if t then -1 else 0
  | 0, y, t, h1, h2, h => by
    have h0 := h 0 (Nat.le_refl _)
    simp only [Int.pow_zero] at h1 h2
    unfold bit at h0
    simp only [Int.pow_zero, Int.ediv_one] at h0
    cases t
    · have : ¬ y % 2 = 1 := by simpa using h0
      simp only [Bool.false_eq_true, if_false]; omega
    · have : y % 2 = 1 := by simpa using h0
      simp only [if_true]; omega
  | m + 1, y, t, h1, h2, h => by
    have h0 := h 0 (by omega)
    obtain ⟨g1, g2⟩ := two_bounds h1 h2
    have ih := same_bits m (y / 2) t g1 g2 (fun j hj => by
      have := h (1 + j) (by omega)
      rw [← bit_div] at this
      simpa using this)
    unfold bit at h0
    simp only [Int.pow_zero, Int.ediv_one] at h0
    cases t
    · have : ¬ y % 2 = 1 := by simpa using h0
      simp only [Bool.false_eq_true, if_false] at ih ⊢; omega
    · have : y % 2 = 1 := by simpa using h0
      simp only [if_true] at ih ⊢; omega

theorem div_bounds {x : Int} {a b : Nat} (hab : a ≤ b) (h1 : -2 ^ b ≤ x) (h2 : x < 2 ^ b) : -2 ^ (b - a) ≤ x / 2 ^ a ∧ x / 2 ^ a < 2 ^ (b - a) := by
  have e : (2 : Int) ^ b = 2 ^ (b - a) * 2 ^ a := by rw [← Int.pow_add]; congr 1; omega
  have hp := p2 a
  rw [e] at h1 h2
  refine ⟨(Int.le_ediv_iff_mul_le hp).2 ?_, (Int.ediv_lt_iff_lt_mul hp).2 h2⟩
  rw [Int.neg_mul]; exact h1
/-- All bits from a up to b are t: what is above a is 0 or -1. -/
theorem same_from {x : Int} {a b : Nat} {t : Bool} (hab : a ≤ b) (h1 : -2 ^ b ≤ x) (h2 : x < 2 ^ b) (h : ∀ j, a ≤ j → j ≤ b → bit x j = t) : x / 2 ^ a = if t then -1 else 0 := by
  obtain ⟨g1, g2⟩ := div_bounds hab h1 h2
  exact same_bits (b - a) _ t g1 g2 (fun j hj => by rw [bit_div]; exact h _ (by omega) (by omega))
theorem from_same {x : Int} {a : Nat} {t : Bool} (h : x / 2 ^ a = if t then -1 else 0) (j : Nat) (hj : a ≤ j) : bit x j = t := by
  have e : j = a + (j - a) := by omega
  rw [e, ← bit_div, h]
  cases t
  · exact bit_zero _
  · exact bit_neg _
theorem bit_high {x : Int} {b : Nat} (h0 : 0 ≤ x) (h : x < 2 ^ b) (j : Nat) (hj : b ≤ j) : bit x j = false :=
  from_same (t := false) (by simp only [Bool.false_eq_true, if_false]; exact Int.ediv_eq_zero_of_lt h0 h) j hj

/-- Without a sign: n groups are enough if no bit from 7n up to 63 is set. -/
theorem fitU_bits {x : Int} {n : Nat} (h0 : 0 ≤ x) (h1 : x < 2 ^ 64) (hn : 1 ≤ n) (hn9 : n ≤ 9) : fitU x n ↔ ∀ j, 7 * n ≤ j → j < 64 → bit x j = false := by
  have e : x / 2 ^ (7 * n) = x / 128 ^ (n - 1) / 128 := by
    rw [pow7, show n = n - 1 + 1 by omega, ← div_pow128]; rfl
  have hq : 0 ≤ x / 128 ^ (n - 1) := Int.ediv_nonneg h0 (Int.le_of_lt (p128 _))
  constructor
  · intro h j hj _
    refine from_same (a := 7 * n) (t := false) ?_ j hj
    rw [e]
    have h' : x / 128 ^ (n - 1) < 128 := h
    simp only [Bool.false_eq_true, if_false]
    omega
  · intro h
    have h2 := same_from (x := x) (a := 7 * n) (b := 64) (t := false) (by omega) (by omega) h1 (fun j hj hb => by
      rcases Nat.lt_or_ge j 64 with g | g
      · exact h j hj g
      · exact bit_high h0 h1 j g)
    rw [e] at h2
    simp only [Bool.false_eq_true, if_false] at h2
    show x / 128 ^ (n - 1) < 128
    omega
theorem div64 (x : Int) (n : Nat) (hn : 1 ≤ n) : x / 2 ^ (7 * n - 1) = x / 128 ^ (n - 1) / 64 := by
  have e : 7 * n - 1 = 7 * (n - 1) + 6 := by omega
  rw [e, ← div_pow, pow7]; rfl
/-- With a sign: n groups are enough if all bits from 7n - 1 up to 63 are the same. -/
theorem fitS_bits {x : Int} {n : Nat} (h0 : -2 ^ 63 ≤ x) (h1 : x < 2 ^ 63) (hn : 1 ≤ n) (hn9 : n ≤ 9) : fitS x n ↔ ∀ j, 7 * n - 1 ≤ j → j < 64 → bit x j = bit x 63 := by
  have e := div64 x n hn
  constructor
  · intro h j hj hj2
    obtain ⟨a1, a2⟩ : -64 ≤ x / 128 ^ (n - 1) ∧ x / 128 ^ (n - 1) < 64 := h
    have hz : x / 2 ^ (7 * n - 1) = 0 ∨ x / 2 ^ (7 * n - 1) = -1 := by rw [e]; omega
    rcases hz with hz | hz
    · rw [from_same (t := false) (by simpa using hz) j hj, from_same (t := false) (by simpa using hz) 63 (by omega)]
    · rw [from_same (t := true) (by simpa using hz) j hj, from_same (t := true) (by simpa using hz) 63 (by omega)]
  · intro h
    have h2 := same_from (x := x) (a := 7 * n - 1) (b := 63) (t := bit x 63) (by omega) h0 h1 (fun j hj hb => h j hj (by omega))
    rw [e] at h2
    show -64 ≤ x / 128 ^ (n - 1) ∧ x / 128 ^ (n - 1) < 64
    split at h2 <;> omega
/-- The number modulo a power, one bit more. -/
theorem mod_bit (x : Int) (i : Nat) : x % 2 ^ (i + 1) = x % 2 ^ i + if bit x i then 2 ^ i else 0 := by
  have hp := p2 i
  have e1 := Int.emod_def x (2 ^ i)
  have e2 := Int.emod_def x (2 ^ (i + 1))
  have e3 : x / 2 ^ (i + 1) = x / 2 ^ i / 2 := by rw [← div_pow]; rfl
  have e4 : (2 : Int) ^ (i + 1) = 2 * 2 ^ i := by rw [Int.pow_succ, Int.mul_comm]
  rw [e3, e4] at e2
  rw [e4, e2, e1]
  have h2 : x / 2 ^ i = 2 * (x / 2 ^ i / 2) + x / 2 ^ i % 2 := by omega
  have h3 : x / 2 ^ i % 2 = 0 ∨ x / 2 ^ i % 2 = 1 := by omega
  unfold bit
  generalize x / 2 ^ i / 2 = q at *
  generalize x / 2 ^ i % 2 = r at *
  rw [h2]
  by_cases hr : r = 1
  · subst hr; simp only [beq_self_eq_true, if_true]; grind
  · have : r = 0 := h3.resolve_right hr
    subst this; simp; grind
end Go.Proofs.YtebgmfjgapmpfabDoor

/- The operators on bits that the layer uses, as arithmetic. -/
namespace Go.Proofs.YtebgmfjgapmpfabDoor
set_option linter.unusedVariables false

theorem or128 (c : Int) (h0 : 0 ≤ c) (h1 : c < 256) : bits .or .u8 c 128 = c % 128 + 128 := by
  have all : ∀ n : Fin 256, bits .or .u8 (n.val : Int) 128 = (n.val : Int) % 128 + 128 := by decide +kernel
  obtain ⟨n, rfl⟩ := Int.eq_ofNat_of_zero_le h0
  exact all ⟨n, by omega⟩
theorem not128 (c : Int) (h0 : 0 ≤ c) (h1 : c < 256) : bits .andNot .u8 c 128 = c % 128 := by
  have all : ∀ n : Fin 256, bits .andNot .u8 (n.val : Int) 128 = (n.val : Int) % 128 := by decide +kernel
  obtain ⟨n, rfl⟩ := Int.eq_ofNat_of_zero_le h0
  exact all ⟨n, by omega⟩
theorem not64 (c : Int) (h0 : 0 ≤ c) (h1 : c < 128) : bits .andNot .u8 c 64 = c % 64 := by
  have all : ∀ n : Fin 128, bits .andNot .u8 (n.val : Int) 64 = (n.val : Int) % 64 := by decide +kernel
  obtain ⟨n, rfl⟩ := Int.eq_ofNat_of_zero_le h0
  exact all ⟨n, by omega⟩
theorem and64 (c : Int) (h0 : 0 ≤ c) (h1 : c < 128) : bits .and .u8 c 64 = c - c % 64 := by
  have all : ∀ n : Fin 128, bits .and .u8 (n.val : Int) 64 = (n.val : Int) - (n.val : Int) % 64 := by decide +kernel
  obtain ⟨n, rfl⟩ := Int.eq_ofNat_of_zero_le h0
  exact all ⟨n, by omega⟩
theorem or_nat (v y : Int) (s : Nat) (hs : s ≤ 64) (h0 : 0 ≤ v) (h1 : v < 2 ^ s) :
    (((BitVec.ofInt 64 v ||| BitVec.ofInt 64 (y * 2 ^ s)).toNat : Nat) : Int) = v + y * 2 ^ s % 18446744073709551616 := by
  have hp := p2 s
  have hq := p2 (64 - s)
  have hle : (2 : Int) ^ s ≤ 2 ^ 64 := mono2 hs
  have e64 : (2 : Int) ^ 64 = 18446744073709551616 := rfl
  have es : (18446744073709551616 : Int) = 2 ^ s * 2 ^ (64 - s) := by rw [← Int.pow_add, ← e64]; congr 1; omega
  have em : y * 2 ^ s % 18446744073709551616 = 2 ^ s * (y % 2 ^ (64 - s)) := by rw [es, Int.mul_comm y]; exact Int.mul_emod_mul_of_pos _ _ hp
  have hr : 0 ≤ y % 2 ^ (64 - s) := Int.emod_nonneg _ (Int.ne_of_gt hq)
  have eB : (BitVec.ofInt 64 (y * 2 ^ s)).toNat = 2 ^ s * (y % 2 ^ (64 - s)).toNat := by
    rw [BitVec.toNat_ofInt]
    show (y * 2 ^ s % 18446744073709551616).toNat = _
    rw [em, Int.toNat_mul (Int.le_of_lt hp) hr]
    congr 1
  have eA : (BitVec.ofInt 64 v).toNat = v.toNat := by
    rw [BitVec.toNat_ofInt]
    show (v % 18446744073709551616).toNat = _
    rw [Int.emod_eq_of_lt h0 (by omega)]
  have hv : v.toNat < 2 ^ s := by
    have : ((2 ^ s : Nat) : Int) = 2 ^ s := by simp
    omega
  rw [BitVec.toNat_or, eA, eB, Nat.or_comm, ← Nat.two_pow_add_eq_or_of_lt hv, em]
  rw [Int.natCast_add, Int.natCast_mul, Int.toNat_of_nonneg hr, Int.toNat_of_nonneg h0]
  have : ((2 ^ s : Nat) : Int) = 2 ^ s := by simp
  rw [this]; omega
/-- v below 2^s beside a multiple of 2^s: 'or' is '+'. -/
theorem or_u64 (v y : Int) (s : Nat) (hs : s ≤ 64) (h0 : 0 ≤ v) (h1 : v < 2 ^ s) (hy : 0 ≤ y) (hb : v + y * 2 ^ s < 18446744073709551616) : bits .or .u64 v (y * 2 ^ s) = v + y * 2 ^ s := by
  have hz : 0 ≤ y * 2 ^ s := Int.mul_nonneg hy (Int.le_of_lt (p2 s))
  show IntKind.u64.wrap ((BitVec.ofInt 64 v ||| BitVec.ofInt 64 (y * 2 ^ s)).toNat : Nat) = v + y * 2 ^ s
  rw [or_nat v y s hs h0 h1]
  generalize y * 2 ^ s = z at *
  simp only [IntKind.wrap, IntKind.bits, IntKind.signed]
  simp
  omega
theorem or_i64 (v y : Int) (s : Nat) (hs : s ≤ 64) (h0 : 0 ≤ v) (h1 : v < 2 ^ s) (hl : -9223372036854775808 ≤ v + y * 2 ^ s) (hb : v + y * 2 ^ s < 9223372036854775808) : bits .or .i64 v (y * 2 ^ s) = v + y * 2 ^ s := by
  show IntKind.i64.wrap ((BitVec.ofInt 64 v ||| BitVec.ofInt 64 (y * 2 ^ s)).toNat : Nat) = v + y * 2 ^ s
  rw [or_nat v y s hs h0 h1, IntKind.wrap_i64]
  generalize y * 2 ^ s = z at *
  omega
end Go.Proofs.YtebgmfjgapmpfabDoor
