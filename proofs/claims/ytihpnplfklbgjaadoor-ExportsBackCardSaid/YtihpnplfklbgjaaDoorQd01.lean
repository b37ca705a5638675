/- Small laws on memory: blocks known whole, worlds that grow, for every program. -/
import Derived.Test.YtihpnplfklbgjaaDoorRows
import Derived.WalkKit
import Derived.Laws.OwnMore
import Derived.Laws.Rows
import Derived.Deep.Draws
import Derived.Laws.BytesArg
import Derived.Laws.Strings
import Derived.Laws.BytesString
import Derived.Lib.Hide
import Derived.LoopTactic
import Derived.OwnWalk
import Derived.Deep.AppendLies
import Derived.KernelRfl
import Derived.Lib.AppendStr
import Derived.Deep.DeepMust
import Derived.Lib.ValidLaws
import Derived.Lib.RuneCountTail
import Derived.Shelf.Unicode.DecodeSlow
import Derived.Lib.ValidAsc
namespace Go.Proofs.YtihpnplfklbgjaaDoor
set_option linter.unusedVariables false
open Go.RowKit

/-- Block g is the cells cs of element type t, all of them writable. -/
def Whole (w : World) (g : Nat) (t : TypeId) (cs : Array Value) : Prop := w.heap[g]? = some (.cells cs t (0, 0))

theorem Whole.lt {w : World} {g : Nat} {t : TypeId} {cs : Array Value} (h : Whole w g t cs) : g < w.heap.size := by
  have h' : w.heap[g]? = some (.cells cs t (0, 0)) := h
  exact (Array.getElem?_eq_some_iff.1 h').1
theorem Whole.cell {w : World} {g : Nat} {t : TypeId} {cs : Array Value} (h : Whole w g t cs) (i : Nat) : w.cell? ⟨g, i, none⟩ = cs[i]? := cell_of_row w g i cs t (0, 0) h
theorem Whole.frozen {w : World} {g : Nat} {t : TypeId} {cs : Array Value} (h : Whole w g t cs) (i : Nat) : w.frozen? ⟨g, i, none⟩ = false := frozen_of_row w g i cs t h
theorem Whole.made (w : World) (t : TypeId) (cs : Array Value) : Whole (w.alloc (.cells cs t)) w.heap.size t cs := heap_alloc_new w _
theorem Whole.drew {w : World} {g : Nat} {t : TypeId} {cs : Array Value} (h : Whole w g t cs) : Whole w.drew g t cs := h
theorem Whole.alloc {w : World} {g : Nat} {t : TypeId} {cs : Array Value} (h : Whole w g t cs) (o : Obj) : Whole (w.alloc o) g t cs := (Below.heap_alloc w o g h.lt).trans h
theorem Whole.put {w : World} {g : Nat} {t : TypeId} {cs : Array Value} (h : Whole w g t cs) (i : Nat) (u : Value) : Whole (w.setCell ⟨g, i, none⟩ u) g t (cs.setIfInBounds i u) := by
  have h' : w.heap[g]? = some (.cells cs t (0, 0)) := h
  show (w.setCell ⟨g, i, none⟩ u).heap[g]? = _
  simp [World.setCell, Array.getElem?_modify, h']
theorem Whole.far {w : World} {g : Nat} {t : TypeId} {cs : Array Value} (h : Whole w g t cs) {p : Addr} (hp : g ≠ p.block) (u : Value) : Whole (w.setCell p u) g t cs := (heap_setCell_other w p g u hp).trans h
theorem Whole.grown {w w' : World} {g : Nat} {t : TypeId} {cs : Array Value} {row : Option Nat} (h : Whole w g t cs) (hg : w.grownBy w' row) (hr : some g ≠ row) : Whole w' g t cs := (hg.block g h.lt hr).trans h
theorem Whole.below {w w' : World} {g : Nat} {t : TypeId} {cs : Array Value} (h : Whole w g t cs) (hg : Below w.heap.size w w') : Whole w' g t cs := (hg.block g h.lt).trans h
theorem Whole.apart {w : World} {g g' : Nat} {t t' : TypeId} {cs cs' : Array Value} (h : Whole w g t cs) (h' : Whole w g' t' cs') (hne : t ≠ t') : g ≠ g' := by
  intro e
  subst e
  have e2 : some (Obj.cells cs t (0, 0)) = some (Obj.cells cs' t' (0, 0)) := h.symm.trans h'
  simp only [Option.some.injEq, Obj.cells.injEq] at e2
  exact hne e2.2.1

theorem gb_refl (w : World) (row : Option Nat) : w.grownBy w row := ⟨rfl, rfl, rfl, Nat.le_refl _, fun _ _ _ => rfl⟩
theorem gb_trans {w w1 w2 : World} {row : Option Nat} (h : w.grownBy w1 row) (k : w1.grownBy w2 row) : w.grownBy w2 row :=
  ⟨k.os.trans h.os, k.tape.trans h.tape, k.output.trans h.output, Nat.le_trans h.size k.size, fun i hi hr => (k.block i (Nat.lt_of_lt_of_le hi h.size) hr).trans (h.block i hi hr)⟩
theorem gb_any {w w1 : World} (row : Option Nat) (h : w.grownBy w1 none) : w.grownBy w1 row := ⟨h.os, h.tape, h.output, h.size, fun i hi _ => h.block i hi (by simp)⟩
theorem gb_of_below {w w1 : World} (row : Option Nat) (h : Below w.heap.size w w1) : w.grownBy w1 row := ⟨h.os, h.tape, h.output, h.size, fun i hi _ => h.block i hi⟩
theorem below_of_gb {w w1 : World} (h : w.grownBy w1 none) : Below w.heap.size w w1 := ⟨h.os, h.tape, h.output, h.size, fun i hi => h.block i hi (by simp)⟩
theorem gb_drew {w w1 : World} {row : Option Nat} (h : w.grownBy w1 row) : w.grownBy w1.drew row := ⟨h.os, h.tape, h.output, h.size, h.block⟩
theorem gb_alloc {w w1 : World} {row : Option Nat} (h : w.grownBy w1 row) (o : Obj) : w.grownBy (w1.alloc o) row :=
  gb_trans h (World.grownBy_alloc w1 o row)
/-- A store into the row that may be written, or into a new block. -/
theorem gb_put {w w1 : World} {row : Option Nat} (h : w.grownBy w1 row) {p : Addr} (hp : row = some p.block ∨ w.heap.size ≤ p.block) (u : Value) : w.grownBy (w1.setCell p u) row :=
  ⟨h.os, h.tape, h.output, by simpa using h.size, fun i hi hr => by
    have hne : i ≠ p.block := by
      intro e
      rcases hp with hp | hp
      · exact hr (by rw [hp, e])
      · omega
    exact (heap_setCell_other w1 p i u hne).trans (h.block i hi hr)⟩
/-- The row was new, or what was written before is out of sight: seen from the smaller world nothing old has turned. -/
theorem gb_new {w w1 : World} {g : Nat} (h : w.grownBy w1 (some g)) (hg : w.heap.size ≤ g) (row : Option Nat) : w.grownBy w1 row :=
  ⟨h.os, h.tape, h.output, h.size, fun i hi _ => h.block i hi (fun e => by simp only [Option.some.injEq] at e; omega)⟩
/-- Seen from the world before a block of one's own was made. -/
theorem gb_before {w w1 w2 : World} {row : Option Nat} {r2 : Option Nat} (h : w.grownBy w1 row) (k : w1.grownBy w2 r2) (hr : ∀ g, r2 = some g → row = some g ∨ w.heap.size ≤ g) : w.grownBy w2 row :=
  ⟨k.os.trans h.os, k.tape.trans h.tape, k.output.trans h.output, Nat.le_trans h.size k.size, fun i hi hne => (k.block i (Nat.lt_of_lt_of_le hi h.size) (fun e => by
    rcases hr i e.symm with e2 | e2
    · exact hne e2.symm
    · omega)).trans (h.block i hi hne)⟩
/-- Two cells of one block, both written. -/
theorem two_put {w w1 : World} {b : Nat} {t : TypeId} {x y u v : Value} (hb : Whole w b t #[x, y]) (hb1 : Below w.heap.size w w1) :
    Whole ((w1.setCell ⟨b, 0, none⟩ u).setCell ⟨b, 1, none⟩ v) b t #[u, v] ∧ w.grownBy ((w1.setCell ⟨b, 0, none⟩ u).setCell ⟨b, 1, none⟩ v) (some b) := by
  have h1 : Whole ((w1.setCell ⟨b, 0, none⟩ u).setCell ⟨b, 1, none⟩ v) b t ((#[x, y].setIfInBounds 0 u).setIfInBounds 1 v) := ((hb.below hb1).put 0 u).put 1 v
  have h2 : w.grownBy (w1.setCell ⟨b, 0, none⟩ u) (some b) := gb_put (p := ⟨b, 0, none⟩) (gb_of_below (some b) hb1) (.inl rfl) u
  have h3 : w.grownBy ((w1.setCell ⟨b, 0, none⟩ u).setCell ⟨b, 1, none⟩ v) (some b) := gb_put (p := ⟨b, 1, none⟩) h2 (.inl rfl) v
  exact ⟨h1, h3⟩
theorem ret_int {k : IntKind} {a b : Int} (h : a = b) : Ending.returned (.int k a) = .returned (.int k b) := by rw [h]
end Go.Proofs.YtihpnplfklbgjaaDoor

/- Strings as lists of bytes. No program here. -/
namespace Go.Proofs.YtihpnplfklbgjaaDoor
set_option linter.unusedVariables false

theorem u8_ext {a b : UInt8} (h : a.toNat = b.toNat) : a = b := UInt8.toNat_inj.1 h
/-- A string of bytes. -/
def S (l : List UInt8) : ByteArray := ⟨l.toArray⟩
theorem S_size (l : List UInt8) : (S l).size = l.length := by simp [S, ByteArray.size]
theorem S_list (l : List UInt8) : (S l).data.toList = l := by simp [S]
theorem S_toList (l : List UInt8) : (S l).toList = l := by rw [ByteArray.toList_eq]; exact S_list l
theorem S_of (s : ByteArray) : S s.data.toList = s := by cases s; simp [S]
theorem S_inj {a b : List UInt8} (h : S a = S b) : a = b := by
  have := congrArg (fun s => s.data.toList) h
  simpa [S] using this
theorem S_append (a b : List UInt8) : S a ++ S b = S (a ++ b) := by
  apply ByteArray.ext
  simp [S]
theorem S_extract (l : List UInt8) (i j : Nat) : (S l).extract i j = S ((l.drop i).take (j - i)) := by
  apply ByteArray.ext
  apply Array.toList_inj.1
  simp [S, List.extract]
theorem S_get (l : List UInt8) (i : Nat) (h : i < (S l).size) : (S l)[i] = l[i]'(by rw [S_size] at h; exact h) := by
  show (S l).data[i] = _
  simp [S]
/-- Bytes as numbers. -/
def nums (l : List UInt8) : List Int := l.map fun c => (c.toNat : Int)
theorem nums_length (l : List UInt8) : (nums l).length = l.length := by simp [nums]
theorem nums_append (a b : List UInt8) : nums (a ++ b) = nums a ++ nums b := by simp [nums]
theorem strOfNums_nums (l : List UInt8) : strOfNums (nums l) = S l := by
  unfold strOfNums nums S
  congr 2
  rw [List.map_map]
  conv => rhs; rw [← List.map_id l]
  apply List.map_congr_left
  intro c _
  simp
end Go.Proofs.YtihpnplfklbgjaaDoor

/- Slices that read as a list of values; slices of bytes as strings. -/
namespace Go.Proofs.YtihpnplfklbgjaaDoor
set_option linter.unusedVariables false
open Go.RowKit

/-- The slice at A reads as the values vs, in blocks below B. -/
def Lies (w : World) (B : Nat) (A : Option Addr) (vs : List Value) : Prop :=
  ∀ i v, vs[i]? = some v → ∃ b off, A = some ⟨b, off, none⟩ ∧ b < B ∧ w.cell? ⟨b, off + i, none⟩ = some v

theorem Lies.nil {w : World} {B : Nat} {A : Option Addr} : Lies w B A [] := fun i v h => by simp at h
theorem Lies.more {w : World} {B B' : Nat} {A : Option Addr} {vs : List Value} (h : Lies w B A vs) (hb : B ≤ B') : Lies w B' A vs := fun i v hv => by
  obtain ⟨b, off, e, h1, h2⟩ := h i v hv
  exact ⟨b, off, e, by omega, h2⟩
theorem Lies.below {w w' : World} {B B' : Nat} {A : Option Addr} {vs : List Value} (h : Lies w B A vs) (hb : Below B' w w') (hB : B ≤ B') : Lies w' B A vs := fun i v hv => by
  obtain ⟨b, off, e, h1, h2⟩ := h i v hv
  exact ⟨b, off, e, h1, (hb.cell (p := ⟨b, off + i, none⟩) (by show b < _; omega)).trans h2⟩
theorem Lies.grown {w w' : World} {B : Nat} {A : Option Addr} {vs : List Value} {row : Option Nat} (h : Lies w B A vs) (hg : w.grownBy w' row) (hB : B ≤ w.heap.size) (hr : ∀ g, row = some g → B ≤ g) : Lies w' B A vs := fun i v hv => by
  obtain ⟨b, off, e, h1, h2⟩ := h i v hv
  refine ⟨b, off, e, h1, (World.cell?_of_block (a := ⟨b, off + i, none⟩) (hg.block b (by omega) ?_)).trans h2⟩
  intro e'
  have := hr b e'.symm
  omega
theorem Lies.at_ {w : World} {B : Nat} {A : Option Addr} {vs : List Value} (h : Lies w B A vs) {i : Nat} (hi : i < vs.length) : ∃ b off, A = some ⟨b, off, none⟩ ∧ b < B ∧ w.cell? ⟨b, off + i, none⟩ = some vs[i] :=
  h i _ (List.getElem?_eq_getElem hi)
theorem Lies.cut {w : World} {B : Nat} {A : Option Addr} {vs : List Value} (h : Lies w B A vs) (k : Nat) : Lies w B (A.map fun a => ⟨a.block, a.off + k, none⟩) (vs.drop k) := fun i v hv => by
  rw [List.getElem?_drop] at hv
  obtain ⟨b, off, rfl, h1, h2⟩ := h _ v hv
  exact ⟨b, off + k, rfl, h1, by rw [Nat.add_assoc]; exact h2⟩
theorem Lies.take {w : World} {B : Nat} {A : Option Addr} {vs : List Value} (h : Lies w B A vs) (k : Nat) : Lies w B A (vs.take k) := fun i v hv => by
  rw [List.getElem?_take] at hv
  split at hv
  · exact h i v hv
  · cases hv

/-- A row of the call's own reads as its values. -/
theorem lies_own {w : World} {base n : Nat} {e : TypeId} {v : Value} {vs : List Value} (h : w.ownsRow base e 1 v n vs) :
    ∃ A c, v = .slice A n c ∧ n ≤ c ∧ c ≤ maxLen ∧ Lies w w.heap.size A vs ∧ (∀ a, A = some a → base ≤ a.block ∧ a.block < w.heap.size) := by
  obtain ⟨h1, h2⟩ := h
  rcases h2 with ⟨rfl, h2⟩ | ⟨g, cap, cur, rfl, hg, hh, hc, hm, hs, ht⟩
  · have hL : vs = [] := List.eq_nil_of_length_eq_zero (by omega)
    subst hL
    subst h2
    exact ⟨none, 0, rfl, by simp, by simp, Lies.nil, fun a e => by cases e⟩
  · have hlt : g < w.heap.size := (Array.getElem?_eq_some_iff.1 hh).1
    refine ⟨_, cap, rfl, hc, hm, ?_, fun a e => by simp only [Option.some.injEq] at e; subst e; exact ⟨hg, hlt⟩⟩
    intro i u hu
    refine ⟨g, 0, rfl, hlt, ?_⟩
    rw [Nat.zero_add, cell_of_row w g i cur _ (0, 0) hh]
    rw [← ht] at hu
    rw [List.getElem?_take] at hu
    split at hu
    · simpa using hu
    · cases hu

/-- Bytes as values. -/
def cells (l : List Int) : List Value := l.map (.int .u8)
theorem cells_length (l : List Int) : (cells l).length = l.length := by simp [cells]
theorem cells_get {l : List Int} {i : Nat} {c : Int} (h : l[i]? = some c) : (cells l)[i]? = some (.int .u8 c) := by simp [cells, h]
theorem cells_snoc (l : List Int) (c : Int) : cells (l ++ [c]) = cells l ++ [.int .u8 c] := by simp [cells]
theorem Lies.byte {w : World} {B : Nat} {A : Option Addr} {l : List Int} (h : Lies w B A (cells l)) {i : Nat} {c : Int} (hc : l[i]? = some c) : ∃ b off, A = some ⟨b, off, none⟩ ∧ b < B ∧ w.cell? ⟨b, off + i, none⟩ = some (.int .u8 c) :=
  h i _ (cells_get hc)

/-- string(b). -/
theorem str_lies {P : Program} {w : World} {B : Nat} {A : Option Addr} {l : List Int} (h : Lies w B A (cells l)) (hl : 0 < l.length) (c : Nat) {src e : TypeId} (hs : P.underlying src = some (.slice e)) (he : P.underlying e = some (.int .u8)) :
    ∀ dst, P.underlying dst = some .string → (convert src dst (.slice A l.length c)).run P w = .ok (.string (strOfNums l)) w := by
  obtain ⟨b, off, rfl, _, _⟩ := h.byte (List.getElem?_eq_getElem hl)
  refine run_convert_bytes_arg w src e hs he b off l.length c l rfl ?_
  intro i hi
  obtain ⟨b', off', e', _, h2⟩ := h.byte (List.getElem?_eq_getElem hi)
  simp only [Option.some.injEq, Addr.mk.injEq] at e'
  obtain ⟨rfl, rfl, _⟩ := e'
  rw [h2]
  simp [List.getD, List.getElem?_eq_getElem hi]

/-- What a function that makes bytes hands back: the bytes l, in a row of its own. -/
def Bytes (l : List Int) (w : World) (e : Ending) (w' : World) : Prop :=
  ∃ A c, e = .returned (.slice A l.length c) ∧ l.length ≤ c ∧ c ≤ maxLen ∧ Lies w' w'.heap.size A (cells l) ∧ (∀ a, A = some a → w.heap.size ≤ a.block ∧ a.block < w'.heap.size) ∧ Below w.heap.size w w'

theorem bytes_own {w w' : World} {n : Nat} {v : Value} {l : List Int} (h : w'.ownsRow w.heap.size 5 1 v n (cells l)) (hn : l.length = n) (hb : Below w.heap.size w w') : Bytes l w (.returned v) w' := by
  obtain ⟨A, c, rfl, h1, h2, h3, h4⟩ := lies_own h
  subst hn
  exact ⟨A, c, rfl, h1, h2, h3, h4, hb⟩
theorem bytes_of {w w' : World} {v : Value} {l l' : List Int} (h : Bytes l w (.returned v) w') (e : l = l') : Bytes l' w (.returned v) w' := e ▸ h
theorem infoB : (Tryd.prog.info? 5).map (fun i => (i.zero, i.size, i.bytes)) = some (some (.int .u8 0), 1, 1) := by kernel_rfl

/-- append of a new block of bytes onto a row of bytes of the call's own. -/
theorem wp_app {w : World} {o : Oper} {a : Act} {K : Act → World → Prop} {Q : Exit → Act → World → Prop} (s x : Operand)
    (ho : o.op = .call { callee := .builtin .append, args := #[s, x], argTypes := #[29, 29] })
    (base : Nat) (v : Value) (n : Nat) (xs : List Int) (hs : a.eval s = v) (hown : w.ownsRow base 5 1 v n (cells xs))
    (g m : Nat) (news : List Int) (hx : a.eval x = .slice (some ⟨g, 0, none⟩) m m) (hl : news.length = m) (hg : w.heap[g]? = some (.cells (cells news).toArray 5 (0, 0)))
    (hm : 0 < m) (hb : n + m ≤ 1000000) (hbase : base ≤ w.heap.size)
    (h : ∀ v' w', w'.ownsRow base 5 1 v' (n + m) (cells (xs ++ news)) → w.grownBy w' v.ownBlock → K (a.put o.dst v') w') : o.wp Tryd.prog a w K Q := by
  obtain ⟨i0, hi0, hz0, hz1, hz2⟩ := info_parts infoB
  refine wp_append_lies w s x _ ho base 5 i0 _ 1 1 Tryd.underlying29 hi0 hz0 hz1 hz2 rfl (by omega) v n (cells xs) hs hown ⟨g, 0, none⟩ m m (cells news) hx (by rw [cells_length]; omega) ?_ ?_ hm (by unfold maxLen; omega) (by omega) hbase _ rfl (fun g cap w' h2 h3 _ _ => h _ w' (by unfold cells at *; rw [List.map_append]; exact h2) h3)
  · exact World.news_of_block hg
  · intro u hu
    obtain ⟨c, _, rfl⟩ := List.mem_map.1 hu
    rfl
theorem wpList_app {w : World} {ops : Array Oper} {rest : List Oper} {o : Oper} {a : Act} {Q : Exit → Act → World → Prop} (hgd : o.guard = none) (s x : Operand)
    (ho : o.op = .call { callee := .builtin .append, args := #[s, x], argTypes := #[29, 29] })
    (base : Nat) (v : Value) (n : Nat) (xs : List Int) (hs : a.eval s = v) (hown : w.ownsRow base 5 1 v n (cells xs))
    (g m : Nat) (news : List Int) (hx : a.eval x = .slice (some ⟨g, 0, none⟩) m m) (hl : news.length = m) (hg : w.heap[g]? = some (.cells (cells news).toArray 5 (0, 0)))
    (hm : 0 < m) (hb : n + m ≤ 1000000) (hbase : base ≤ w.heap.size)
    (h : ∀ v' w', w'.ownsRow base 5 1 v' (n + m) (cells (xs ++ news)) → w.grownBy w' v.ownBlock → wpList Tryd.prog ops Q rest (a.put o.dst v') w') : wpList Tryd.prog ops Q (o :: rest) a w :=
  wpList_plain hgd fun _ hK => wp_app s x ho base v n xs hs hown g m news hx hl hg hm hb hbase fun v' w' h2 h3 => hK _ _ (h v' w' h2 h3)
/-- At a step of a region that draws its order. -/
theorem step_app {w : World} {ops : Array Oper} {o : Oper} {a : Act} {K : Act → World → Prop} {Q : Exit → Act → World → Prop} {E : Prop} (hgd : o.guard = none) (s x : Operand)
    (ho : o.op = .call { callee := .builtin .append, args := #[s, x], argTypes := #[29, 29] })
    (base : Nat) (v : Value) (n : Nat) (xs : List Int) (hs : a.eval s = v) (hown : w.ownsRow base 5 1 v n (cells xs))
    (g m : Nat) (news : List Int) (hx : a.eval x = .slice (some ⟨g, 0, none⟩) m m) (hl : news.length = m) (hg : w.heap[g]? = some (.cells (cells news).toArray 5 (0, 0)))
    (hm : 0 < m) (hb : n + m ≤ 1000000) (hbase : base ≤ w.heap.size)
    (h : ∀ v' w', w'.ownsRow base 5 1 v' (n + m) (cells (xs ++ news)) → w.grownBy w' v.ownBlock → K (a.put o.dst v') w') :
    if Region.wanted o (yielded ops a.tmps) = true then Oper.wp Tryd.prog o a w K Q else E := by
  have hw : Region.wanted o (yielded ops a.tmps) = true := by simp [Region.wanted, hgd]
  rw [if_pos hw]
  exact wp_app s x ho base v n xs hs hown g m news hx hl hg hm hb hbase h
theorem below_app {w wr w2 : World} {e : TypeId} {b : Value} {k : Nat} {vs : List Value} (hb : Below w.heap.size w wr) (ho : wr.ownsRow w.heap.size e 1 b k vs) {w1 : World} (h1 : Below wr.heap.size wr w1) (hg : w1.grownBy w2 b.ownBlock) : Below w.heap.size w w2 :=
  Below.grown (hb.trans (h1.mono hb.size)) hg (by have := hb.size; have := h1.size; omega) (fun g h => (ho.lt g h).1)

/-- string(b) of a row of bytes of the call's own, nil too. -/
theorem str_own {w : World} {base n : Nat} {v : Value} {o : List UInt8} (h : w.ownsRow base 5 1 v n (cells (nums o))) :
    ∃ A c, v = .slice A n c ∧ ∀ dst, Tryd.prog.underlying dst = some .string → (convert 29 dst (.slice A n c)).run Tryd.prog w = .ok (.string (S o)) w := by
  obtain ⟨A, c, rfl, _, _, hl, _⟩ := lies_own h
  refine ⟨A, c, rfl, ?_⟩
  have hn : n = o.length := by
    have := h.1
    rw [cells_length, nums_length] at this
    omega
  subst hn
  by_cases h0 : 0 < (nums o).length
  · have := str_lies hl h0 c Tryd.underlying29 Tryd.underlying5
    rw [strOfNums_nums, nums_length] at this
    exact this
  · have ho : o = [] := List.eq_nil_of_length_eq_zero (by rw [nums_length] at h0; omega)
    subst ho
    intro dst hd
    rw [run_convert_bytes_string w _ dst 5 _ _ c Tryd.underlying29 Tryd.underlying5 hd]
    have e : S [] = ByteArray.empty := rfl
    rw [e]
    cases A <;> simp [Conv.bytesToString, loadCells]
    all_goals rfl
end Go.Proofs.YtihpnplfklbgjaaDoor

/- Rows of bytes of the call's own, as lists of bytes: append of a new block, of a string, of what lies somewhere; string(b). -/
namespace Go.Proofs.YtihpnplfklbgjaaDoor
set_option linter.unusedVariables false
open Go.RowKit

/-- A row of the call's own that reads as these bytes. -/
def Row (w : World) (base : Nat) (v : Value) (xs : List UInt8) : Prop := w.ownsRow base 5 1 v xs.length (cells (nums xs))
theorem Row.nil (w : World) (base : Nat) : Row w base (.slice none 0 0) [] := World.ownsRow_nil w base _ 1
theorem Row.later {w w' : World} {base : Nat} {v : Value} {xs : List UInt8} (h : Row w base v xs) (hb : Below w.heap.size w w') : Row w' base v xs :=
  World.ownsRow.kept h (gb_of_below none hb) (by cases v.ownBlock with
    | none => exact .inl rfl
    | some k => exact .inr (by simp))
theorem Row.drew {w : World} {base : Nat} {v : Value} {xs : List UInt8} (h : Row w base v xs) : Row w.drew base v xs := h
theorem Row.alloc {w : World} {base : Nat} {v : Value} {xs : List UInt8} (h : Row w base v xs) (o : Obj) : Row (w.alloc o) base v xs := World.ownsRow.alloc h o
theorem Row.mono {w : World} {base base' : Nat} {v : Value} {xs : List UInt8} (h : Row w base v xs) (hb : base' ≤ base) : Row w base' v xs := by
  obtain ⟨h1, h2⟩ := h
  refine ⟨h1, ?_⟩
  rcases h2 with h2 | ⟨g, cap, cur, e, hg, r⟩
  · exact .inl h2
  · exact .inr ⟨g, cap, cur, e, Nat.le_trans hb hg, r⟩
theorem Row.below {w w' : World} {base : Nat} {v : Value} {xs : List UInt8} (h : Row w base v xs) (hB : base ≤ w.heap.size) (hg : w.grownBy w' v.ownBlock) : Below base w w' :=
  Below.grown (Below.refl _ _) hg hB (fun k hk => (World.ownsRow.lt h k hk).1)
/-- A block of bytes, all of them read; H is its number as the walk writes it. -/
theorem Row.made (w : World) (xs : List UInt8) (base H : Nat) (hH : w.heap.size = H) (hb : base ≤ H) (hl : xs.length ≤ 1000000) :
    Row (w.alloc (.cells (cells (nums xs)).toArray 5)) base (.slice (some ⟨H, 0, none⟩) xs.length xs.length) xs := by
  subst hH
  have hn : (cells (nums xs)).length = xs.length := by rw [cells_length, nums_length]
  refine ⟨by omega, .inr ⟨w.heap.size, xs.length, (cells (nums xs)).toArray, rfl, hb, heap_alloc_new w _, Nat.le_refl _, by unfold maxLen; omega, by simp [hn], ?_⟩⟩
  rw [List.take_of_length_le (by simp [hn])]

section
variable {w : World} {ops : Array Oper} {rest : List Oper} {o : Oper} {a : Act} {Q : Exit → Act → World → Prop} {K : Act → World → Prop}
/-- append of a new block of bytes. -/
theorem row_new (hgd : o.guard = none) (s x : Operand)
    (ho : o.op = .call { callee := .builtin .append, args := #[s, x], argTypes := #[29, 29] })
    (B : Nat) (v : Value) (xs : List UInt8) (hs : a.eval s = v) (hr : Row w B v xs)
    (g m : Nat) (news : List UInt8) (hx : a.eval x = .slice (some ⟨g, 0, none⟩) m m) (hl : news.length = m) (hg : w.heap[g]? = some (.cells (cells (nums news)).toArray 5 (0, 0)))
    (hm : 0 < m) (hb : xs.length + news.length ≤ 1000000) (hB : B ≤ w.heap.size)
    (h : ∀ v' w', Row w' B v' (xs ++ news) → Below B w w' → wpList Tryd.prog ops Q rest (a.put o.dst v') w') : wpList Tryd.prog ops Q (o :: rest) a w :=
  wpList_app hgd s x ho B v _ (nums xs) hs hr g m (nums news) hx (by rw [nums_length]; exact hl) hg hm (by omega) hB fun v' w' h2 h3 =>
    h v' w' (by unfold Row; rw [nums_append, List.length_append, hl]; exact h2) (Row.below hr hB h3)
set_option maxRecDepth 100000 in
/-- append of what lies somewhere and is not empty. -/
theorem row_lies (hgd : o.guard = none) (s x : Operand)
    (ho : o.op = .call { callee := .builtin .append, args := #[s, x], argTypes := #[29, 29] })
    (B : Nat) (v : Value) (xs : List UInt8) (hs : a.eval s = v) (hr : Row w B v xs)
    (A : Option Addr) (m c B' : Nat) (news : List UInt8) (hx : a.eval x = .slice A m c) (hl : news.length = m) (hn : Lies w B' A (cells (nums news)))
    (hm : 0 < m) (hb : xs.length + news.length ≤ 1000000) (hB : B ≤ w.heap.size)
    (h : ∀ v' w', Row w' B v' (xs ++ news) → Below B w w' → wpList Tryd.prog ops Q rest (a.put o.dst v') w') : wpList Tryd.prog ops Q (o :: rest) a w := by
  obtain ⟨i0, hi0, hz0, hz1, hz2⟩ := info_parts infoB
  have hcl : (cells (nums news)).length = m := by rw [cells_length, nums_length]; exact hl
  obtain ⟨b, off, rfl, _, _⟩ := hn.at_ (i := 0) (by omega)
  refine wpList_append_own _ hgd s x _ ho B 5 i0 _ 1 1 Tryd.underlying29 hi0 hz0 hz1 hz2 rfl (by omega) v _ _ hs hr ⟨b, off, none⟩ m c (cells (nums news)) hx (by omega) ?_ ?_ (by unfold maxLen; omega) (by omega) hB (fun v' w' h2 h3 _ => h v' w' ?_ (Row.below hr hB h3))
  · intro j u hu
    obtain ⟨b', off', e, _, h2⟩ := hn j u hu
    injection e with e
    injection e with e1 e2
    subst e1; subst e2
    rw [Go.WideShapes.add_plain]; exact h2
  · intro u hu
    unfold cells at hu
    obtain ⟨c, _, rfl⟩ := List.mem_map.1 hu
    rfl
  · unfold Row
    rw [nums_append, List.length_append, hl]
    unfold cells at *
    rw [List.map_append]
    exact h2
theorem strCells_S (t : List UInt8) : Lib.strCells (S t) = cells (nums t) := by
  unfold Lib.strCells cells nums S
  simp [List.map_map]
/-- append of a string. -/
theorem row_str (hgd : o.guard = none) (s x : Operand)
    (ho : o.op = .call { callee := .builtin .append, args := #[s, x], argTypes := #[29, 9] })
    (B : Nat) (v : Value) (xs : List UInt8) (hs : a.eval s = v) (hr : Row w B v xs) (t : List UInt8) (hx : a.eval x = .string (S t))
    (hb : xs.length + t.length ≤ 1000000) (hB : B ≤ w.heap.size)
    (h : ∀ v' w', Row w' B v' (xs ++ t) → Below B w w' → wpList Tryd.prog ops Q rest (a.put o.dst v') w') : wpList Tryd.prog ops Q (o :: rest) a w := by
  obtain ⟨i0, hi0, hz0, hz1, hz2⟩ := info_parts infoB
  have ht := S_size t
  refine Lib.wpList_append_own_string w hgd s x _ _ ho B 5 i0 Tryd.underlying29 Tryd.underlying9 hi0 hz0 hz1 hz2 v _ _ hs hr (S t) hx (by unfold maxLen; omega) (by omega) hB (fun v' w' h2 h3 _ => h v' w' ?_ (Row.below hr hB h3))
  rw [ht, strCells_S] at h2
  unfold Row
  rw [nums_append, List.length_append]
  unfold cells at *
  rw [List.map_append]
  exact h2
end

/-- string(b). -/
theorem Row.str {w : World} {base : Nat} {v : Value} {xs : List UInt8} (h : Row w base v xs) :
    ∃ A c, v = .slice A xs.length c ∧ ∀ dst, Tryd.prog.underlying dst = some .string → (convert 29 dst (.slice A xs.length c)).run Tryd.prog w = .ok (.string (S xs)) w := str_own h
/-- Bytes that a function hands back, in a row of its own. -/
def BytesL (l : List UInt8) (w : World) (e : Ending) (w' : World) : Prop := ∃ v, e = .returned v ∧ Row w' w.heap.size v l ∧ Below w.heap.size w w'
theorem Row.lies {w : World} {base : Nat} {v : Value} {xs : List UInt8} (h : Row w base v xs) : ∃ A c, v = .slice A xs.length c ∧ Lies w w.heap.size A (cells (nums xs)) := by
  obtain ⟨A, c, e, _, _, h3, _⟩ := lies_own h
  exact ⟨A, c, e, h3⟩
/-- string(b) of what a function handed back. -/
theorem str_lies' {w : World} {B : Nat} {A : Option Addr} {l : List UInt8} (h : Lies w B A (cells (nums l))) (hl : 0 < l.length) (c : Nat) :
    ∀ dst, Tryd.prog.underlying dst = some .string → (convert 29 dst (.slice A l.length c)).run Tryd.prog w = .ok (.string (S l)) w := by
  have := str_lies h (by rw [nums_length]; exact hl) c Tryd.underlying29 Tryd.underlying5
  rw [strOfNums_nums, nums_length] at this
  exact this
end Go.Proofs.YtihpnplfklbgjaaDoor

/- The names of types, as lists of bytes; types.names in the world; types.Name, types.Byte, creelref04.Name. -/
namespace Go.Proofs.YtihpnplfklbgjaaDoor
set_option linter.unusedVariables false
open Go.RowKit

/-- The name of a type, by its byte's number. -/
def nameZ (n : Int) : List UInt8 :=
  if n = 127 then [105, 51, 50] else if n = 126 then [105, 54, 52] else if n = 125 then [102, 51, 50] else if n = 124 then [102, 54, 52] else if n = 112 then [102, 117, 110, 99, 114, 101, 102] else [63]
/-- The byte of a name, or 0. -/
def byteZ (s : List UInt8) : Int :=
  if s = [105, 51, 50] then 127 else if s = [105, 54, 52] then 126 else if s = [102, 51, 50] then 125 else if s = [102, 54, 52] then 124 else if s = [102, 117, 110, 99, 114, 101, 102] then 112 else 0
theorem nameZ_len (n : Int) : 1 ≤ (nameZ n).length ∧ (nameZ n).length ≤ 7 := by
  unfold nameZ
  repeat' split
  all_goals simp
theorem byteZ_bd (s : List UInt8) : 0 ≤ byteZ s ∧ byteZ s ≤ 127 := by
  unfold byteZ
  repeat' split
  all_goals omega
/-- A byte from 1 on bears this name, which isn't the question mark: it is the name's byte. -/
theorem name_byte (s : List UInt8) (n : Int) (h1 : 1 ≤ n) : (nameZ n = s ∧ s ≠ [63]) ↔ byteZ s = n := by
  constructor
  · rintro ⟨rfl, h⟩
    unfold nameZ at h ⊢
    by_cases a1 : n = 127
    · subst a1; rfl
    by_cases a2 : n = 126
    · subst a2; rfl
    by_cases a3 : n = 125
    · subst a3; rfl
    by_cases a4 : n = 124
    · subst a4; rfl
    by_cases a5 : n = 112
    · subst a5; rfl
    rw [if_neg a1, if_neg a2, if_neg a3, if_neg a4, if_neg a5] at h
    exact absurd rfl h
  · intro h
    unfold byteZ at h
    by_cases a1 : s = [105, 51, 50]
    · subst a1; simp at h; subst h; decide
    by_cases a2 : s = [105, 54, 52]
    · subst a2; simp at h; subst h; decide
    by_cases a3 : s = [102, 51, 50]
    · subst a3; simp at h; subst h; decide
    by_cases a4 : s = [102, 54, 52]
    · subst a4; simp at h; subst h; decide
    by_cases a5 : s = [102, 117, 110, 99, 114, 101, 102]
    · subst a5; simp at h; subst h; decide
    rw [if_neg a1, if_neg a2, if_neg a3, if_neg a4, if_neg a5] at h
    omega

/-- What types.names holds. -/
def rowN : Array Value := #[.int .u8 127, .string (S [105, 51, 50]), .int .u8 126, .string (S [105, 54, 52]), .int .u8 125, .string (S [102, 51, 50]), .int .u8 124, .string (S [102, 54, 52]), .int .u8 112, .string (S [102, 117, 110, 99, 114, 101, 102])]
/-- The parts of the table. -/
def partN (k : Nat) : Int × List UInt8 := match k with
  | 0 => (127, [105, 51, 50])
  | 1 => (126, [105, 54, 52])
  | 2 => (125, [102, 51, 50])
  | 3 => (124, [102, 54, 52])
  | _ => (112, [102, 117, 110, 99, 114, 101, 102])
theorem nameZ_none {n : Int} (h : ∀ j, j < 5 → (partN j).1 ≠ n) : nameZ n = [63] := by
  have h0 := h 0 (by omega); have h1 := h 1 (by omega); have h2 := h 2 (by omega); have h3 := h 3 (by omega); have h4 := h 4 (by omega)
  simp only [partN] at h0 h1 h2 h3 h4
  unfold nameZ
  rw [if_neg (by omega), if_neg (by omega), if_neg (by omega), if_neg (by omega), if_neg (by omega)]
theorem nameZ_part (k : Nat) : nameZ (partN k).1 = (partN k).2 := by
  unfold partN; split <;> rfl
theorem byteZ_part (k : Nat) : byteZ (partN k).2 = (partN k).1 := by
  unfold partN; split <;> rfl
theorem byteZ_none {s : List UInt8} (h : ∀ j, j < 5 → (partN j).2 ≠ s) : byteZ s = 0 := by
  have h0 := h 0 (by omega); have h1 := h 1 (by omega); have h2 := h 2 (by omega); have h3 := h 3 (by omega); have h4 := h 4 (by omega)
  simp only [partN] at h0 h1 h2 h3 h4
  unfold byteZ
  rw [if_neg (fun e => h0 e.symm), if_neg (fun e => h1 e.symm), if_neg (fun e => h2 e.symm), if_neg (fun e => h3 e.symm), if_neg (fun e => h4 e.symm)]

theorem ret_str {a b : List UInt8} (h : a = b) : Ending.returned (.string (S a)) = .returned (.string (S b)) := by rw [h]

theorem ret_u8 {a b : Int} (h : a = b) : Ending.returned (.int .u8 a) = .returned (.int .u8 b) := by rw [h]
theorem S_beq (a b : List UInt8) : ((S a).toList == (S b).toList) = (a == b) := by rw [S_toList, S_toList]
end Go.Proofs.YtihpnplfklbgjaaDoor

/- types.Value, Values, Func; creelref04.Value, Values, Func. -/
namespace Go.Proofs.YtihpnplfklbgjaaDoor
set_option linter.unusedVariables false
open Go.RowKit

/-- api.OK is 0, ErrType 7, ErrFloat 8, ErrMany 29. -/
def valueZ (n : Int) : Int := if n = 127 ∨ n = 126 then 0 else if n = 125 ∨ n = 124 then 8 else 7
def valuesZ : List UInt8 → Int
  | [] => 0
  | c :: l => if valueZ c.toNat = 0 then valuesZ l else valueZ c.toNat
def funcZ (p r : List UInt8) : Int := if 1000 < p.length ∨ 1 < r.length then 29 else if valuesZ p = 0 then valuesZ r else valuesZ p
theorem valuesZ_append (p r : List UInt8) : valuesZ (p ++ r) = if valuesZ p = 0 then valuesZ r else valuesZ p := by
  induction p with
  | nil => simp [valuesZ]
  | cons c l ih =>
    by_cases h : valueZ c.toNat = 0
    · simp [valuesZ, h, ih]
    · simp [valuesZ, h]
theorem values_step {l : List UInt8} {k : Nat} (h : k < l.length) : ∃ c : UInt8, (∀ hh : k < (S l).size, (S l)[k]'hh = c) ∧ valuesZ (l.drop k) = if valueZ c.toNat = 0 then valuesZ (l.drop (k + 1)) else valueZ c.toNat :=
  ⟨l[k], fun hh => S_get l k hh, by rw [List.drop_eq_getElem_cons h]; rfl⟩

theorem value_any (n : Int) (w : World) : Calls Tryd.prog 117 #[.int .u8 n] w fun e w' => e = .returned (.int .i64 (valueZ n)) ∧ w = w' := by
  by_cases a1 : n = 127
  · subst a1
    go_enter Tryd.func117, Tryd.ntmps117
    go_wp2
    go_ret
    exact ⟨rfl, rfl⟩
  by_cases a2 : n = 126
  · subst a2
    go_enter Tryd.func117, Tryd.ntmps117
    go_wp2
    go_ret
    exact ⟨rfl, rfl⟩
  by_cases a3 : n = 125
  · subst a3
    go_enter Tryd.func117, Tryd.ntmps117
    go_wp2
    go_ret
    exact ⟨rfl, rfl⟩
  by_cases a4 : n = 124
  · subst a4
    go_enter Tryd.func117, Tryd.ntmps117
    go_wp2
    go_ret
    exact ⟨rfl, rfl⟩
  have HE := Lib.hid (show valueZ n = 7 by unfold valueZ; rw [if_neg (by omega), if_neg (by omega)])
  have b1 : (n == 127) = false := by simpa using a1
  have b2 : (n == 126) = false := by simpa using a2
  have b3 : (n == 125) = false := by simpa using a3
  have b4 : (n == 124) = false := by simpa using a4
  clear a1 a2 a3 a4
  go_enter Tryd.func117, Tryd.ntmps117
  go_wp2
  go_ret
  exact ⟨ret_int HE.out.symm, rfl⟩
theorem refValue_any (n : Int) (w : World) : Calls Tryd.prog 59 #[.int .i64 n] w fun e w' => e = .returned (.int .i64 (valueZ n)) ∧ w = w' := by
  by_cases a1 : n = 127
  · subst a1
    go_enter Tryd.func59, Tryd.ntmps59
    go_wp2
    go_ret
    exact ⟨rfl, rfl⟩
  by_cases a2 : n = 126
  · subst a2
    go_enter Tryd.func59, Tryd.ntmps59
    go_wp2
    go_ret
    exact ⟨rfl, rfl⟩
  by_cases a3 : n = 125
  · subst a3
    go_enter Tryd.func59, Tryd.ntmps59
    go_wp2
    go_ret
    exact ⟨rfl, rfl⟩
  by_cases a4 : n = 124
  · subst a4
    go_enter Tryd.func59, Tryd.ntmps59
    go_wp2
    go_ret
    exact ⟨rfl, rfl⟩
  have HE := Lib.hid (show valueZ n = 7 by unfold valueZ; rw [if_neg (by omega), if_neg (by omega)])
  have b1 : (n == 127) = false := by simpa using a1
  have b2 : (n == 126) = false := by simpa using a2
  have b3 : (n == 125) = false := by simpa using a3
  have b4 : (n == 124) = false := by simpa using a4
  clear a1 a2 a3 a4
  go_enter Tryd.func59, Tryd.ntmps59
  go_wp2
  go_ret
  exact ⟨ret_int HE.out.symm, rfl⟩

theorem wrap_byte (c : UInt8) : wrap64 (c.toNat : Int) = c.toNat := by
  have := c.toNat_lt
  unfold wrap64
  omega
/-- A function's type, by value. -/
def ftV (p r : List UInt8) : Value := .agg #[.string (S p), .string (S r)]
theorem below_box (w : World) (o : Obj) : Below w.heap.size w (w.alloc o) := (Below.refl _ _).alloc (Nat.le_refl _) _

end Go.Proofs.YtihpnplfklbgjaaDoor

/- Strings of bytes: what elder texts on names import. -/
namespace Go.Proofs.YtihpnplfklbgjaaDoor
set_option linter.unusedVariables false
end Go.Proofs.YtihpnplfklbgjaaDoor

/- What sign bytes begin with, as lists of bytes: the encoding of a number, the first sign, how many. No program here. -/
namespace Go.Proofs.YtihpnplfklbgjaaDoor
set_option linter.unusedVariables false
open Go.Lib

/-- The encoding of a number; none, if it is no sign. -/
def bytesN (c : Nat) : List UInt8 :=
  if 1114111 < c ∨ (55296 ≤ c ∧ c ≤ 57343) then []
  else if c < 128 then [UInt8.ofNat c]
  else if c < 2048 then [UInt8.ofNat (192 + c / 64), UInt8.ofNat (128 + c % 64)]
  else if c < 65536 then [UInt8.ofNat (224 + c / 4096), UInt8.ofNat (128 + c / 64 % 64), UInt8.ofNat (128 + c % 64)]
  else [UInt8.ofNat (240 + c / 262144), UInt8.ofNat (128 + c / 4096 % 64), UInt8.ofNat (128 + c / 64 % 64), UInt8.ofNat (128 + c % 64)]
def bytesZ (c : Int) : List UInt8 := if c < 0 then [] else bytesN c.toNat

/-- The number that so many bytes would encode. -/
def val (n : Nat) (l : List UInt8) : Nat :=
  if n = 1 then (l.getD 0 0).toNat
  else if n = 2 then (l.getD 0 0).toNat % 32 * 64 + (l.getD 1 0).toNat % 64
  else if n = 3 then ((l.getD 0 0).toNat % 16 * 64 + (l.getD 1 0).toNat % 64) * 64 + (l.getD 2 0).toNat % 64
  else (((l.getD 0 0).toNat % 8 * 64 + (l.getD 1 0).toNat % 64) * 64 + (l.getD 2 0).toNat % 64) * 64 + (l.getD 3 0).toNat % 64
def GoodN (n : Nat) (l : List UInt8) : Prop := n ≤ l.length ∧ bytesN (val n l) = l.take n
/-- The first sign and its length; 0 and 0, if there is none. -/
def firstN (l : List UInt8) : Nat × Nat := if l = [] ∨ ((decodeL l).1 = 65533 ∧ (decodeL l).2 < 2) then (0, 0) else decodeL l
def countZ (l : List UInt8) : Int := if validD l = true then (runeCountL l : Int) else -1

theorem u8U_of {n : Nat} (h : n < 256) : (UInt8.ofNat n).toNat = n := by simp; omega
theorem eq_u8 {b : UInt8} {n : Nat} (h : n < 256) : UInt8.ofNat n = b ↔ n = b.toNat := by
  constructor
  · intro e; rw [← e, u8U_of h]
  · intro e; exact u8_ext (by rw [u8U_of h, e])
theorem take_2 {l : List UInt8} (h : 2 ≤ l.length) : l.take 2 = [l.getD 0 0, l.getD 1 0] := by
  match l, h with
  | a :: b :: r, _ => rfl
theorem take_3 {l : List UInt8} (h : 3 ≤ l.length) : l.take 3 = [l.getD 0 0, l.getD 1 0, l.getD 2 0] := by
  match l, h with
  | a :: b :: c :: r, _ => rfl
theorem take_4 {l : List UInt8} (h : 4 ≤ l.length) : l.take 4 = [l.getD 0 0, l.getD 1 0, l.getD 2 0, l.getD 3 0] := by
  match l, h with
  | a :: b :: c :: d :: r, _ => rfl
theorem take_1 {l : List UInt8} (h : 1 ≤ l.length) : l.take 1 = [l.getD 0 0] := by
  match l, h with
  | a :: r, _ => rfl

theorem bytesN_1 {c : Nat} {b0 : UInt8} : bytesN c = [b0] ↔ c < 128 ∧ b0.toNat = c := by
  unfold bytesN
  have := b0.toNat_lt
  repeat' split
  · simp; omega
  · simp only [List.cons.injEq, and_true]; rw [eq_u8 (by omega)]; omega
  · simp; omega
  · simp; omega
  · simp; omega
theorem bytesN_2 {c : Nat} {b0 b1 : UInt8} : bytesN c = [b0, b1] ↔ 128 ≤ c ∧ c < 2048 ∧ b0.toNat = 192 + c / 64 ∧ b1.toNat = 128 + c % 64 := by
  unfold bytesN
  repeat' split
  · simp; omega
  · simp; omega
  · simp only [List.cons.injEq, and_true]; rw [eq_u8 (by omega), eq_u8 (by omega)]; omega
  · simp; omega
  · simp; omega
theorem bytesN_3 {c : Nat} {b0 b1 b2 : UInt8} : bytesN c = [b0, b1, b2] ↔ 2048 ≤ c ∧ c < 65536 ∧ ¬ (55296 ≤ c ∧ c ≤ 57343) ∧ b0.toNat = 224 + c / 4096 ∧ b1.toNat = 128 + c / 64 % 64 ∧ b2.toNat = 128 + c % 64 := by
  unfold bytesN
  repeat' split
  · simp; omega
  · simp; omega
  · simp; omega
  · simp only [List.cons.injEq, and_true]; rw [eq_u8 (by omega), eq_u8 (by omega), eq_u8 (by omega)]; omega
  · simp; omega
theorem bytesN_4 {c : Nat} {b0 b1 b2 b3 : UInt8} : bytesN c = [b0, b1, b2, b3] ↔ 65536 ≤ c ∧ c ≤ 1114111 ∧ b0.toNat = 240 + c / 262144 ∧ b1.toNat = 128 + c / 4096 % 64 ∧ b2.toNat = 128 + c / 64 % 64 ∧ b3.toNat = 128 + c % 64 := by
  unfold bytesN
  repeat' split
  · simp; omega
  · simp; omega
  · simp; omega
  · simp; omega
  · simp only [List.cons.injEq, and_true]; rw [eq_u8 (by omega), eq_u8 (by omega), eq_u8 (by omega), eq_u8 (by omega)]; omega

section
variable (l : List UInt8)
theorem good_1 (h : 1 ≤ l.length) : GoodN 1 l ↔ (l.getD 0 0).toNat < 128 := by
  unfold GoodN
  rw [take_1 h, bytesN_1]
  simp [val, h]
theorem good_2 (h : 2 ≤ l.length) : GoodN 2 l ↔ (l.getD 0 0).toNat / 32 = 6 ∧ (l.getD 1 0).toNat / 64 = 2 ∧ 128 ≤ (l.getD 0 0).toNat % 32 * 64 + (l.getD 1 0).toNat % 64 := by
  unfold GoodN
  have h0 := (l.getD 0 0).toNat_lt; have h1 := (l.getD 1 0).toNat_lt
  rw [take_2 h, bytesN_2]
  simp only [val, show ¬ (2 = 1) by omega, if_false, if_true, h, true_and]
  omega
theorem good_3 (h : 3 ≤ l.length) : GoodN 3 l ↔ (l.getD 0 0).toNat / 16 = 14 ∧ (l.getD 1 0).toNat / 64 = 2 ∧ (l.getD 2 0).toNat / 64 = 2 ∧ 2048 ≤ (l.getD 0 0).toNat % 16 * 4096 + (l.getD 1 0).toNat % 64 * 64 + (l.getD 2 0).toNat % 64 ∧
    ¬ (55296 ≤ (l.getD 0 0).toNat % 16 * 4096 + (l.getD 1 0).toNat % 64 * 64 + (l.getD 2 0).toNat % 64 ∧ (l.getD 0 0).toNat % 16 * 4096 + (l.getD 1 0).toNat % 64 * 64 + (l.getD 2 0).toNat % 64 ≤ 57343) := by
  unfold GoodN
  have h0 := (l.getD 0 0).toNat_lt; have h1 := (l.getD 1 0).toNat_lt; have h2 := (l.getD 2 0).toNat_lt
  rw [take_3 h, bytesN_3]
  simp only [val, show ¬ (3 = 1) by omega, show ¬ (3 = 2) by omega, if_false, if_true, h, true_and]
  omega
theorem good_4 (h : 4 ≤ l.length) : GoodN 4 l ↔ (l.getD 0 0).toNat / 8 = 30 ∧ (l.getD 1 0).toNat / 64 = 2 ∧ (l.getD 2 0).toNat / 64 = 2 ∧ (l.getD 3 0).toNat / 64 = 2 ∧
    65536 ≤ (l.getD 0 0).toNat % 8 * 262144 + (l.getD 1 0).toNat % 64 * 4096 + (l.getD 2 0).toNat % 64 * 64 + (l.getD 3 0).toNat % 64 ∧ (l.getD 0 0).toNat % 8 * 262144 + (l.getD 1 0).toNat % 64 * 4096 + (l.getD 2 0).toNat % 64 * 64 + (l.getD 3 0).toNat % 64 ≤ 1114111 := by
  unfold GoodN
  have h0 := (l.getD 0 0).toNat_lt; have h1 := (l.getD 1 0).toNat_lt; have h2 := (l.getD 2 0).toNat_lt; have h3 := (l.getD 3 0).toNat_lt
  rw [take_4 h, bytesN_4]
  simp only [val, show ¬ (4 = 1) by omega, show ¬ (4 = 2) by omega, show ¬ (4 = 3) by omega, if_false, h, true_and]
  omega
end
end Go.Proofs.YtihpnplfklbgjaaDoor

/- The first sign by the numbers; how many signs. No program here. -/
namespace Go.Proofs.YtihpnplfklbgjaaDoor
set_option linter.unusedVariables false
open Go.Lib
set_option maxRecDepth 100000

theorem decode_good {l : List UInt8} {n : Nat} (h1 : 1 ≤ n) (h4 : n ≤ 4) (h : GoodN n l) : decodeL l = (val n l, n) := by
  have hl := h.1
  have l0 := (l.getD 0 0).toNat_lt; have l1 := (l.getD 1 0).toNat_lt; have l2 := (l.getD 2 0).toNat_lt; have l3 := (l.getD 3 0).toNat_lt
  rw [decodeL_N]
  have hn : n = 1 ∨ n = 2 ∨ n = 3 ∨ n = 4 := by omega
  rcases hn with rfl | rfl | rfl | rfl
  · have g := (good_1 l hl).1 h
    unfold decodeN val
    rw [if_pos g, if_pos rfl]
  · have g := (good_2 l hl).1 h
    simp only [val, show ¬ (2 = 1) by omega, if_false, if_true]
    generalize (l.getD 0 0).toNat = b0 at *
    generalize (l.getD 1 0).toNat = b1 at *
    generalize (l.getD 2 0).toNat = b2 at *
    generalize (l.getD 3 0).toNat = b3 at *
    unfold decodeN
    repeat' split
    all_goals first | (exfalso; omega) | rfl
  · have g := (good_3 l hl).1 h
    simp only [val, show ¬ (3 = 1) by omega, show ¬ (3 = 2) by omega, if_false, if_true]
    generalize (l.getD 0 0).toNat = b0 at *
    generalize (l.getD 1 0).toNat = b1 at *
    generalize (l.getD 2 0).toNat = b2 at *
    generalize (l.getD 3 0).toNat = b3 at *
    unfold decodeN
    repeat' split
    all_goals first | (exfalso; omega) | (apply Prod.ext <;> simp only <;> omega)
  · have g := (good_4 l hl).1 h
    simp only [val, show ¬ (4 = 1) by omega, show ¬ (4 = 2) by omega, show ¬ (4 = 3) by omega, if_false]
    generalize (l.getD 0 0).toNat = b0 at *
    generalize (l.getD 1 0).toNat = b1 at *
    generalize (l.getD 2 0).toNat = b2 at *
    generalize (l.getD 3 0).toNat = b3 at *
    unfold decodeN
    repeat' split
    all_goals first | (exfalso; omega) | (apply Prod.ext <;> simp only <;> omega)
theorem decode_none {l : List UInt8} (h : ∀ n, 1 ≤ n → n ≤ 4 → ¬ GoodN n l) (hl : l ≠ []) : decodeL l = (65533, 1) := by
  have hl1 : 1 ≤ l.length := List.length_pos_iff.2 hl
  have l0 := (l.getD 0 0).toNat_lt; have l1 := (l.getD 1 0).toNat_lt; have l2 := (l.getD 2 0).toNat_lt; have l3 := (l.getD 3 0).toNat_lt
  have g1 := h 1 (by omega) (by omega)
  rw [good_1 l hl1] at g1
  have g2 : ¬ (2 ≤ l.length ∧ _) := fun k => h 2 (by omega) (by omega) ((good_2 l k.1).2 k.2)
  have g3 : ¬ (3 ≤ l.length ∧ _) := fun k => h 3 (by omega) (by omega) ((good_3 l k.1).2 k.2)
  have g4 : ¬ (4 ≤ l.length ∧ _) := fun k => h 4 (by omega) (by omega) ((good_4 l k.1).2 k.2)
  rw [decodeL_N]
  clear h
  generalize (l.getD 0 0).toNat = b0 at *
  generalize (l.getD 1 0).toNat = b1 at *
  generalize (l.getD 2 0).toNat = b2 at *
  generalize (l.getD 3 0).toNat = b3 at *
  generalize l.length = n at *
  unfold decodeN
  repeat' split
  all_goals first | rfl | (exfalso; omega)
theorem firstN_good {l : List UInt8} {n : Nat} (h1 : 1 ≤ n) (h4 : n ≤ 4) (h : GoodN n l) : firstN l = (val n l, n) := by
  have hl := h.1
  have hd := decode_good h1 h4 h
  unfold firstN
  rw [if_neg, hd]
  rintro (rfl | ⟨e1, e2⟩)
  · simp at hl; omega
  · rw [hd] at e1 e2
    simp only at e1 e2
    obtain rfl : n = 1 := by omega
    have := (l.getD 0 0).toNat_lt
    simp only [val, if_true] at e1
    omega
theorem firstN_none {l : List UInt8} (h : ∀ n, 1 ≤ n → n ≤ 4 → ¬ GoodN n l) : firstN l = (0, 0) := by
  unfold firstN
  rw [if_pos]
  by_cases hl : l = []
  · exact .inl hl
  · rw [decode_none h hl]; right; simp
theorem firstN_nil : firstN [] = (0, 0) := rfl
/-- The first sign of what utf8.DecodeRune answers. -/
theorem firstN_of_go (s : ByteArray) : firstN s.data.toList = if (decodeGo s).1 = 65533 ∧ (decodeGo s).2 < 2 then (0, 0) else decodeGo s := by
  unfold firstN decodeGo decodeL
  have e : (⟨s.data.toList.toArray⟩ : ByteArray) = s := by cases s; rfl
  rw [e]
  by_cases h : s.size = 0
  · have : s.data.toList = [] := List.eq_nil_of_length_eq_zero (by rw [← Lib.size_eq]; exact h)
    simp [h, this]
  · have : s.data.toList ≠ [] := fun k => h (by rw [Lib.size_eq, k]; rfl)
    simp [h, this]

theorem bytesN_len (c : Nat) : (bytesN c).length ≤ 4 := by
  unfold bytesN
  repeat' split
  all_goals simp
/-- A sign's bytes are that sign's. -/
theorem good_bytes {c : Nat} {l : List UInt8} (h : bytesN c ≠ []) : GoodN (bytesN c).length (bytesN c ++ l) ∧ val (bytesN c).length (bytesN c ++ l) = c := by
  have key : val (bytesN c).length (bytesN c ++ l) = c := by
    unfold bytesN at *
    repeat' split
    · simp_all
    · simp [val]; omega
    · simp [val]; omega
    · simp [val]; omega
    · simp [val]; omega
  refine ⟨⟨by simp, ?_⟩, key⟩
  rw [key, List.take_left]
theorem first_bytes {c : Nat} {l : List UInt8} (h : bytesN c ≠ []) : firstN (bytesN c ++ l) = (c, (bytesN c).length) := by
  obtain ⟨h1, h2⟩ := good_bytes (l := l) h
  rw [firstN_good (List.length_pos_iff.2 h) (bytesN_len c) h1, h2]

theorem runeCountL_step {l : List UInt8} (h : l ≠ []) : runeCountL l = 1 + runeCountL (l.drop (decodeL l).2) := by
  have hl : 0 < l.length := List.length_pos_iff.2 h
  have hw := decodeL_width l
  have hz : (⟨l.toArray⟩ : ByteArray).size = l.length := by simp [ByteArray.size]
  have e : (⟨(l.drop (decodeL l).2).toArray⟩ : ByteArray) = (⟨l.toArray⟩ : ByteArray).extract (decodeL l).2 (⟨l.toArray⟩ : ByteArray).size := by
    apply ByteArray.ext
    apply Array.toList_inj.1
    rw [Lib.ext_list]
  unfold runeCountL
  rw [e]
  unfold runeCount
  rw [tail_size, tail_count, hz]
  obtain ⟨n, hn⟩ : ∃ n, l.length = n + 1 := ⟨l.length - 1, by omega⟩
  rw [hn]
  show (if 0 < (⟨l.toArray⟩ : ByteArray).size then _ else _) = _
  rw [if_pos (by omega)]
  congr 1
  rw [Nat.zero_add, Nat.add_zero]
  exact fuel_enough _ _ _ _ (by rw [hz]; show l.length - (decodeL l).2 ≤ n; omega) (by rw [hz]; show l.length - (decodeL l).2 ≤ _; omega)
theorem firstN_zero {l : List UInt8} (h : l ≠ []) : (firstN l).2 = 0 ↔ (decodeL l).1 = 65533 ∧ (decodeL l).2 = 1 := by
  have hw := decodeL_width l
  unfold firstN
  by_cases hc : (decodeL l).1 = 65533 ∧ (decodeL l).2 < 2
  · rw [if_pos (.inr hc)]; simp only [true_iff]; omega
  · rw [if_neg (by rintro (k | k); exact h k; exact hc k)]; omega
theorem valid_none {l : List UInt8} (h : l ≠ []) (h2 : (firstN l).2 = 0) : validD l = false := by
  rw [validD_step l h, if_pos ((firstN_zero h).1 h2)]
theorem firstN_width {l : List UInt8} (h2 : (firstN l).2 ≠ 0) : (firstN l).2 = (decodeL l).2 := by
  unfold firstN at *
  split at h2
  · exact absurd rfl h2
  · rename_i hc; rw [if_neg hc]
theorem valid_some {l : List UInt8} (h : l ≠ []) (h2 : (firstN l).2 ≠ 0) : validD l = validD (l.drop (firstN l).2) := by
  rw [firstN_width h2, validD_step l h, if_neg (fun k => h2 ((firstN_zero h).2 k))]
theorem count_some {l : List UInt8} (h : l ≠ []) (h2 : (firstN l).2 ≠ 0) : runeCountL l = 1 + runeCountL (l.drop (firstN l).2) := by
  rw [firstN_width h2]; exact runeCountL_step h
theorem firstN_le (l : List UInt8) : (firstN l).2 ≤ 4 ∧ (firstN l).2 ≤ l.length ∧ (firstN l).1 ≤ 1114111 := by
  by_cases h : ∃ n, 1 ≤ n ∧ n ≤ 4 ∧ GoodN n l
  · obtain ⟨n, a, b, g⟩ := h
    have e := firstN_good a b g
    have hd := decode_good a b g
    have := decodeL_rune l
    rw [hd] at this
    rw [e]
    exact ⟨b, g.1, this⟩
  · rw [firstN_none (fun n a b g => h ⟨n, a, b, g⟩)]
    simp
theorem count_le (l : List UInt8) : runeCountL l ≤ l.length := by
  have := runeCount_le (⟨l.toArray⟩ : ByteArray)
  have hz : (⟨l.toArray⟩ : ByteArray).size = l.length := by simp [ByteArray.size]
  rw [hz] at this
  exact this
end Go.Proofs.YtihpnplfklbgjaaDoor

/- creelref03.Bytes. -/
namespace Go.Proofs.YtihpnplfklbgjaaDoor
set_option linter.unusedVariables false
open Go.RowKit

/-- string of a new block of bytes. -/
theorem str_new (w : World) (arr : Array Value) (o : List UInt8) (n : Nat) (ha : arr = (cells (nums o)).toArray) (hn : n = o.length) : ∀ dst, Tryd.prog.underlying dst = some .string →
    (convert 29 dst (.slice (some ⟨w.heap.size, 0, none⟩) n n)).run Tryd.prog (w.alloc (.cells arr 5)) = .ok (.string (S o)) (w.alloc (.cells arr 5)) := by
  subst hn
  have h : Lies (w.alloc (.cells arr 5)) (w.heap.size + 1) (some ⟨w.heap.size, 0, none⟩) (cells (nums o)) := by
    intro i v hv
    refine ⟨w.heap.size, 0, rfl, by omega, ?_⟩
    rw [Nat.zero_add, cell_of_row _ w.heap.size i _ _ (0, 0) (heap_alloc_new w _), ha]
    simpa using hv
  by_cases h0 : 0 < (nums o).length
  · have := str_lies h h0 o.length Tryd.underlying29 Tryd.underlying5
    rw [strOfNums_nums, nums_length] at this
    exact this
  · have ho : o = [] := List.eq_nil_of_length_eq_zero (by rw [nums_length] at h0; omega)
    subst ho
    intro dst hd
    rw [run_convert_bytes_string _ _ dst 5 _ _ _ Tryd.underlying29 Tryd.underlying5 hd]
    have e : S [] = ByteArray.empty := rfl
    rw [e]
    simp [Conv.bytesToString, loadCells]
    rfl
theorem u8n {n : Nat} (h : n < 256) : ((UInt8.ofNat n).toNat : Int) = (n : Int) := by rw [u8U_of h]
theorem bytesZ_neg {c : Int} (h : c < 0 ∨ 1114111 < c ∨ (55296 ≤ c ∧ c ≤ 57343)) : bytesZ c = [] := by
  unfold bytesZ bytesN
  by_cases h0 : c < 0
  · rw [if_pos h0]
  · rw [if_neg h0, if_pos (by omega)]
theorem bytesZ_1 {c : Int} (h0 : 0 ≤ c) (h1 : c < 128) : ∃ o, bytesZ c = o ∧ (cells (nums o)).toArray = #[.int .u8 c] ∧ o.length = 1 := by
  refine ⟨[UInt8.ofNat c.toNat], ?_, ?_, rfl⟩
  · unfold bytesZ bytesN; rw [if_neg (by omega), if_neg (by omega), if_pos (by omega)]
  · simp only [cells, nums, List.map_cons, List.map_nil]
    rw [u8n (by omega), show ((c.toNat : Nat) : Int) = c by omega]
theorem bytesZ_2 {c : Int} (h0 : 128 ≤ c) (h1 : c < 2048) : ∃ o, bytesZ c = o ∧ (cells (nums o)).toArray = #[.int .u8 (192 + c / 64), .int .u8 (128 + c % 64)] ∧ o.length = 2 := by
  refine ⟨[UInt8.ofNat (192 + c.toNat / 64), UInt8.ofNat (128 + c.toNat % 64)], ?_, ?_, rfl⟩
  · unfold bytesZ bytesN; rw [if_neg (by omega), if_neg (by omega), if_neg (by omega), if_pos (by omega)]
  · simp only [cells, nums, List.map_cons, List.map_nil]
    rw [u8n (by omega), u8n (by omega), show ((192 + c.toNat / 64 : Nat) : Int) = 192 + c / 64 by omega, show ((128 + c.toNat % 64 : Nat) : Int) = 128 + c % 64 by omega]
theorem bytesZ_3 {c : Int} (h0 : 2048 ≤ c) (h1 : c < 65536) (h2 : ¬ (55296 ≤ c ∧ c ≤ 57343)) : ∃ o, bytesZ c = o ∧ (cells (nums o)).toArray = #[.int .u8 (224 + c / 4096), .int .u8 (128 + c / 64 % 64), .int .u8 (128 + c % 64)] ∧ o.length = 3 := by
  refine ⟨[UInt8.ofNat (224 + c.toNat / 4096), UInt8.ofNat (128 + c.toNat / 64 % 64), UInt8.ofNat (128 + c.toNat % 64)], ?_, ?_, rfl⟩
  · unfold bytesZ bytesN; rw [if_neg (by omega), if_neg (by omega), if_neg (by omega), if_neg (by omega), if_pos (by omega)]
  · simp only [cells, nums, List.map_cons, List.map_nil]
    rw [u8n (by omega), u8n (by omega), u8n (by omega), show ((224 + c.toNat / 4096 : Nat) : Int) = 224 + c / 4096 by omega, show ((128 + c.toNat / 64 % 64 : Nat) : Int) = 128 + c / 64 % 64 by omega, show ((128 + c.toNat % 64 : Nat) : Int) = 128 + c % 64 by omega]
theorem bytesZ_4 {c : Int} (h0 : 65536 ≤ c) (h1 : c ≤ 1114111) : ∃ o, bytesZ c = o ∧ (cells (nums o)).toArray = #[.int .u8 (240 + c / 262144), .int .u8 (128 + c / 4096 % 64), .int .u8 (128 + c / 64 % 64), .int .u8 (128 + c % 64)] ∧ o.length = 4 := by
  refine ⟨[UInt8.ofNat (240 + c.toNat / 262144), UInt8.ofNat (128 + c.toNat / 4096 % 64), UInt8.ofNat (128 + c.toNat / 64 % 64), UInt8.ofNat (128 + c.toNat % 64)], ?_, ?_, rfl⟩
  · unfold bytesZ bytesN; rw [if_neg (by omega), if_neg (by omega), if_neg (by omega), if_neg (by omega), if_neg (by omega)]
  · simp only [cells, nums, List.map_cons, List.map_nil]
    rw [u8n (by omega), u8n (by omega), u8n (by omega), u8n (by omega), show ((240 + c.toNat / 262144 : Nat) : Int) = 240 + c / 262144 by omega, show ((128 + c.toNat / 4096 % 64 : Nat) : Int) = 128 + c / 4096 % 64 by omega, show ((128 + c.toNat / 64 % 64 : Nat) : Int) = 128 + c / 64 % 64 by omega, show ((128 + c.toNat % 64 : Nat) : Int) = 128 + c % 64 by omega]

def BytesOut (c : Int) (w : World) (e : Ending) (w' : World) : Prop := e = .returned (.string (S (bytesZ c))) ∧ (w' = w ∨ ∃ o, w' = w.alloc o)
theorem BytesOut.below {c : Int} {w w' : World} {e : Ending} (h : BytesOut c w e w') : Below w.heap.size w w' := by
  rcases h.2 with rfl | ⟨o, rfl⟩
  · exact Below.refl _ _
  · exact (Below.refl _ _).alloc (Nat.le_refl _) _
set_option maxHeartbeats 2000000 in
theorem bytes_any (c : Int) (w : World) : Calls Tryd.prog 101 #[.int .i64 c] w (BytesOut c w) := by
  by_cases h0 : c < 0
  · have HE := Lib.hid (bytesZ_neg (.inl h0))
    go_enter Tryd.func101, Tryd.ntmps101
    go_wp2
    go_ret
    exact ⟨by rw [HE.out]; rfl, .inl rfl⟩
  have h0' : 0 ≤ c := by omega
  have d0 : decide (c < 0) = false := by simpa using h0
  by_cases h1 : 1114111 < c
  · have HE := Lib.hid (bytesZ_neg (.inr (.inl h1)))
    go_enter Tryd.func101, Tryd.ntmps101
    go_wp2
    go_ret
    exact ⟨by rw [HE.out]; rfl, .inl rfl⟩
  have h1' : c ≤ 1114111 := by omega
  have d1 : decide (1114111 < c) = false := by simpa using h1
  by_cases h2 : 55296 ≤ c ∧ c ≤ 57343
  · obtain ⟨h2a, h2b⟩ := h2
    have HE := Lib.hid (bytesZ_neg (.inr (.inr ⟨h2a, h2b⟩)))
    go_enter Tryd.func101, Tryd.ntmps101
    go_wp2
    go_ret
    exact ⟨by rw [HE.out]; rfl, .inl rfl⟩
  by_cases h3 : c < 128
  · obtain ⟨o, ho, ha, hn⟩ := bytesZ_1 h0' h3
    have hstr := str_new w _ o _ ha.symm hn.symm
    have d2 : decide (55296 ≤ c) = false := by simp; omega
    have HE := Lib.hid ho
    clear ho ha hn h2
    go_enter Tryd.func101, Tryd.ntmps101
    go_wp2
    go_ret
    exact ⟨by rw [HE.out]; rfl, .inr ⟨_, rfl⟩⟩
  have d3 : decide (c < 128) = false := by simpa using h3
  by_cases h4 : c < 2048
  · obtain ⟨o, ho, ha, hn⟩ := bytesZ_2 (by omega) h4
    have hstr := str_new w _ o _ ha.symm hn.symm
    have d2 : decide (55296 ≤ c) = false := by simp; omega
    have HE := Lib.hid ho
    clear ho ha hn h2
    go_enter Tryd.func101, Tryd.ntmps101
    go_wp2
    go_ret
    exact ⟨by rw [HE.out]; rfl, .inr ⟨_, rfl⟩⟩
  have d4 : decide (c < 2048) = false := by simpa using h4
  have h5 : c < 55296 ∨ 57343 < c := by omega
  rcases h5 with h5 | h5
  · obtain ⟨o, ho, ha, hn⟩ := bytesZ_3 (c := c) (by omega) (by omega) h2
    have hstr := str_new w _ o _ ha.symm hn.symm
    have d2 : decide (55296 ≤ c) = false := by simp; omega
    have d5 : c < 65536 := by omega
    have HE := Lib.hid ho
    clear ho ha hn h2
    go_enter Tryd.func101, Tryd.ntmps101
    go_wp2
    go_ret
    exact ⟨by rw [HE.out]; rfl, .inr ⟨_, rfl⟩⟩
  have d5 : 55296 ≤ c := by omega
  have d6 : decide (c ≤ 57343) = false := by simp; omega
  by_cases h6 : c < 65536
  · obtain ⟨o, ho, ha, hn⟩ := bytesZ_3 (c := c) (by omega) h6 h2
    have hstr := str_new w _ o _ ha.symm hn.symm
    have HE := Lib.hid ho
    clear ho ha hn h2
    go_enter Tryd.func101, Tryd.ntmps101
    go_wp2
    go_ret
    exact ⟨by rw [HE.out]; rfl, .inr ⟨_, rfl⟩⟩
  · obtain ⟨o, ho, ha, hn⟩ := bytesZ_4 (c := c) (by omega) h1'
    have hstr := str_new w _ o _ ha.symm hn.symm
    have d7 : decide (c < 65536) = false := by simpa using h6
    have HE := Lib.hid ho
    clear ho ha hn h2
    go_enter Tryd.func101, Tryd.ntmps101
    go_wp2
    go_ret
    exact ⟨by rw [HE.out]; rfl, .inr ⟨_, rfl⟩⟩
end Go.Proofs.YtihpnplfklbgjaaDoor
