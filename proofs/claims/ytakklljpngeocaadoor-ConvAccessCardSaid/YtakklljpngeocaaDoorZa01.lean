/- Bits as lists: the numbers that they make, sums with a carry, products, quotients. No walk here. -/
import Derived.ProofKit
import Derived.Test.YtakklljpngeocaaDoorRows
import Derived.WalkKit
import Derived.Laws.OwnMore
import Derived.Laws.Rows
import Derived.Deep.Draws
import Derived.Laws.BytesArg
import Derived.Laws.Strings
import Derived.Laws.BytesString
import Derived.Lib.Hide
import Derived.LoopTactic
import Derived.OwnWalk
import Derived.Deep.AppendLies
import Derived.KernelRfl
import Derived.Lib.AppendStr
import Derived.Deep.RegionHeld3
import Derived.Deep.QuietTactic
import Derived.Deep.CutBlock
import Derived.Deep.DeepCutAuto
import Derived.WalkLawsBesides
import Derived.Deep.DeepMust
namespace Go.Proofs.YtakklljpngeocaaDoor
set_option linter.unusedVariables false

end Go.Proofs.YtakklljpngeocaaDoor

/- Small laws on memory: blocks known whole, worlds that grow, for every program. -/
namespace Go.Proofs.YtakklljpngeocaaDoor
set_option linter.unusedVariables false
open Go.RowKit

/-- Block g is the cells cs of element type t, all of them writable. -/
def Whole (w : World) (g : Nat) (t : TypeId) (cs : Array Value) : Prop := w.heap[g]? = some (.cells cs t (0, 0))

theorem Whole.lt {w : World} {g : Nat} {t : TypeId} {cs : Array Value} (h : Whole w g t cs) : g < w.heap.size := by
  have h' : w.heap[g]? = some (.cells cs t (0, 0)) := h
  exact (Array.getElem?_eq_some_iff.1 h').1
theorem Whole.cell {w : World} {g : Nat} {t : TypeId} {cs : Array Value} (h : Whole w g t cs) (i : Nat) : w.cell? ⟨g, i, none⟩ = cs[i]? := cell_of_row w g i cs t (0, 0) h
theorem Whole.frozen {w : World} {g : Nat} {t : TypeId} {cs : Array Value} (h : Whole w g t cs) (i : Nat) : w.frozen? ⟨g, i, none⟩ = false := frozen_of_row w g i cs t h
theorem Whole.made (w : World) (t : TypeId) (cs : Array Value) : Whole (w.alloc (.cells cs t)) w.heap.size t cs := heap_alloc_new w _
theorem Whole.drew {w : World} {g : Nat} {t : TypeId} {cs : Array Value} (h : Whole w g t cs) : Whole w.drew g t cs := h
theorem Whole.alloc {w : World} {g : Nat} {t : TypeId} {cs : Array Value} (h : Whole w g t cs) (o : Obj) : Whole (w.alloc o) g t cs := (Below.heap_alloc w o g h.lt).trans h
theorem Whole.put {w : World} {g : Nat} {t : TypeId} {cs : Array Value} (h : Whole w g t cs) (i : Nat) (u : Value) : Whole (w.setCell ⟨g, i, none⟩ u) g t (cs.setIfInBounds i u) := by
  have h' : w.heap[g]? = some (.cells cs t (0, 0)) := h
  show (w.setCell ⟨g, i, none⟩ u).heap[g]? = _
  simp [World.setCell, Array.getElem?_modify, h']
theorem Whole.grown {w w' : World} {g : Nat} {t : TypeId} {cs : Array Value} {row : Option Nat} (h : Whole w g t cs) (hg : w.grownBy w' row) (hr : some g ≠ row) : Whole w' g t cs := (hg.block g h.lt hr).trans h
theorem Whole.below {w w' : World} {g : Nat} {t : TypeId} {cs : Array Value} (h : Whole w g t cs) (hg : Below w.heap.size w w') : Whole w' g t cs := (hg.block g h.lt).trans h
theorem gb_of_below {w w1 : World} (row : Option Nat) (h : Below w.heap.size w w1) : w.grownBy w1 row := ⟨h.os, h.tape, h.output, h.size, fun i hi _ => h.block i hi⟩
end Go.Proofs.YtakklljpngeocaaDoor

/- Strings as lists of bytes. No program here. -/
namespace Go.Proofs.YtakklljpngeocaaDoor
set_option linter.unusedVariables false

theorem u8_ext {a b : UInt8} (h : a.toNat = b.toNat) : a = b := UInt8.toNat_inj.1 h
/-- A string of bytes. -/
def S (l : List UInt8) : ByteArray := ⟨l.toArray⟩
theorem S_size (l : List UInt8) : (S l).size = l.length := by simp [S, ByteArray.size]
theorem S_list (l : List UInt8) : (S l).data.toList = l := by simp [S]
theorem S_toList (l : List UInt8) : (S l).toList = l := by rw [ByteArray.toList_eq]; exact S_list l
theorem S_append (a b : List UInt8) : S a ++ S b = S (a ++ b) := by
  apply ByteArray.ext
  simp [S]
theorem S_extract (l : List UInt8) (i j : Nat) : (S l).extract i j = S ((l.drop i).take (j - i)) := by
  apply ByteArray.ext
  apply Array.toList_inj.1
  simp [S, List.extract]
theorem S_get (l : List UInt8) (i : Nat) (h : i < (S l).size) : (S l)[i] = l[i]'(by rw [S_size] at h; exact h) := by
  show (S l).data[i] = _
  simp [S]
/-- Bytes as numbers. -/
def nums (l : List UInt8) : List Int := l.map fun c => (c.toNat : Int)
theorem nums_length (l : List UInt8) : (nums l).length = l.length := by simp [nums]
theorem nums_append (a b : List UInt8) : nums (a ++ b) = nums a ++ nums b := by simp [nums]
theorem strOfNums_nums (l : List UInt8) : strOfNums (nums l) = S l := by
  unfold strOfNums nums S
  congr 2
  rw [List.map_map]
  conv => rhs; rw [← List.map_id l]
  apply List.map_congr_left
  intro c _
  simp
end Go.Proofs.YtakklljpngeocaaDoor

/- Slices that read as a list of values; slices of bytes as strings. -/
namespace Go.Proofs.YtakklljpngeocaaDoor
set_option linter.unusedVariables false
open Go.RowKit

/-- The slice at A reads as the values vs, in blocks below B. -/
def Lies (w : World) (B : Nat) (A : Option Addr) (vs : List Value) : Prop :=
  ∀ i v, vs[i]? = some v → ∃ b off, A = some ⟨b, off, none⟩ ∧ b < B ∧ w.cell? ⟨b, off + i, none⟩ = some v

theorem Lies.nil {w : World} {B : Nat} {A : Option Addr} : Lies w B A [] := fun i v h => by simp at h
theorem Lies.below {w w' : World} {B B' : Nat} {A : Option Addr} {vs : List Value} (h : Lies w B A vs) (hb : Below B' w w') (hB : B ≤ B') : Lies w' B A vs := fun i v hv => by
  obtain ⟨b, off, e, h1, h2⟩ := h i v hv
  exact ⟨b, off, e, h1, (hb.cell (p := ⟨b, off + i, none⟩) (by show b < _; omega)).trans h2⟩
theorem Lies.grown {w w' : World} {B : Nat} {A : Option Addr} {vs : List Value} {row : Option Nat} (h : Lies w B A vs) (hg : w.grownBy w' row) (hB : B ≤ w.heap.size) (hr : ∀ g, row = some g → B ≤ g) : Lies w' B A vs := fun i v hv => by
  obtain ⟨b, off, e, h1, h2⟩ := h i v hv
  refine ⟨b, off, e, h1, (World.cell?_of_block (a := ⟨b, off + i, none⟩) (hg.block b (by omega) ?_)).trans h2⟩
  intro e'
  have := hr b e'.symm
  omega
theorem Lies.at_ {w : World} {B : Nat} {A : Option Addr} {vs : List Value} (h : Lies w B A vs) {i : Nat} (hi : i < vs.length) : ∃ b off, A = some ⟨b, off, none⟩ ∧ b < B ∧ w.cell? ⟨b, off + i, none⟩ = some vs[i] :=
  h i _ (List.getElem?_eq_getElem hi)
theorem Lies.cut {w : World} {B : Nat} {A : Option Addr} {vs : List Value} (h : Lies w B A vs) (k : Nat) : Lies w B (A.map fun a => ⟨a.block, a.off + k, none⟩) (vs.drop k) := fun i v hv => by
  rw [List.getElem?_drop] at hv
  obtain ⟨b, off, rfl, h1, h2⟩ := h _ v hv
  exact ⟨b, off + k, rfl, h1, by rw [Nat.add_assoc]; exact h2⟩
theorem Lies.take {w : World} {B : Nat} {A : Option Addr} {vs : List Value} (h : Lies w B A vs) (k : Nat) : Lies w B A (vs.take k) := fun i v hv => by
  rw [List.getElem?_take] at hv
  split at hv
  · exact h i v hv
  · cases hv

/-- A row of the call's own reads as its values. -/
theorem lies_own {w : World} {base n : Nat} {e : TypeId} {v : Value} {vs : List Value} (h : w.ownsRow base e 1 v n vs) :
    ∃ A c, v = .slice A n c ∧ n ≤ c ∧ c ≤ maxLen ∧ Lies w w.heap.size A vs ∧ (∀ a, A = some a → base ≤ a.block ∧ a.block < w.heap.size) := by
  obtain ⟨h1, h2⟩ := h
  rcases h2 with ⟨rfl, h2⟩ | ⟨g, cap, cur, rfl, hg, hh, hc, hm, hs, ht⟩
  · have hL : vs = [] := List.eq_nil_of_length_eq_zero (by omega)
    subst hL
    subst h2
    exact ⟨none, 0, rfl, by simp, by simp, Lies.nil, fun a e => by cases e⟩
  · have hlt : g < w.heap.size := (Array.getElem?_eq_some_iff.1 hh).1
    refine ⟨_, cap, rfl, hc, hm, ?_, fun a e => by simp only [Option.some.injEq] at e; subst e; exact ⟨hg, hlt⟩⟩
    intro i u hu
    refine ⟨g, 0, rfl, hlt, ?_⟩
    rw [Nat.zero_add, cell_of_row w g i cur _ (0, 0) hh]
    rw [← ht] at hu
    rw [List.getElem?_take] at hu
    split at hu
    · simpa using hu
    · cases hu

/-- Bytes as values. -/
def cells (l : List Int) : List Value := l.map (.int .u8)
theorem cells_length (l : List Int) : (cells l).length = l.length := by simp [cells]
theorem cells_get {l : List Int} {i : Nat} {c : Int} (h : l[i]? = some c) : (cells l)[i]? = some (.int .u8 c) := by simp [cells, h]
theorem Lies.byte {w : World} {B : Nat} {A : Option Addr} {l : List Int} (h : Lies w B A (cells l)) {i : Nat} {c : Int} (hc : l[i]? = some c) : ∃ b off, A = some ⟨b, off, none⟩ ∧ b < B ∧ w.cell? ⟨b, off + i, none⟩ = some (.int .u8 c) :=
  h i _ (cells_get hc)

/-- string(b). -/
theorem str_lies {P : Program} {w : World} {B : Nat} {A : Option Addr} {l : List Int} (h : Lies w B A (cells l)) (hl : 0 < l.length) (c : Nat) {src e : TypeId} (hs : P.underlying src = some (.slice e)) (he : P.underlying e = some (.int .u8)) :
    ∀ dst, P.underlying dst = some .string → (convert src dst (.slice A l.length c)).run P w = .ok (.string (strOfNums l)) w := by
  obtain ⟨b, off, rfl, _, _⟩ := h.byte (List.getElem?_eq_getElem hl)
  refine run_convert_bytes_arg w src e hs he b off l.length c l rfl ?_
  intro i hi
  obtain ⟨b', off', e', _, h2⟩ := h.byte (List.getElem?_eq_getElem hi)
  simp only [Option.some.injEq, Addr.mk.injEq] at e'
  obtain ⟨rfl, rfl, _⟩ := e'
  rw [h2]
  simp [List.getD, List.getElem?_eq_getElem hi]

/-- What a function that makes bytes hands back: the bytes l, in a row of its own. -/
def Bytes (l : List Int) (w : World) (e : Ending) (w' : World) : Prop :=
  ∃ A c, e = .returned (.slice A l.length c) ∧ l.length ≤ c ∧ c ≤ maxLen ∧ Lies w' w'.heap.size A (cells l) ∧ (∀ a, A = some a → w.heap.size ≤ a.block ∧ a.block < w'.heap.size) ∧ Below w.heap.size w w'

theorem infoB : (Tryd.prog.info? 5).map (fun i => (i.zero, i.size, i.bytes)) = some (some (.int .u8 0), 1, 1) := by kernel_rfl

/-- append of a new block of bytes onto a row of bytes of the call's own. -/
theorem wp_app {w : World} {o : Oper} {a : Act} {K : Act → World → Prop} {Q : Exit → Act → World → Prop} (s x : Operand)
    (ho : o.op = .call { callee := .builtin .append, args := #[s, x], argTypes := #[29, 29] })
    (base : Nat) (v : Value) (n : Nat) (xs : List Int) (hs : a.eval s = v) (hown : w.ownsRow base 5 1 v n (cells xs))
    (g m : Nat) (news : List Int) (hx : a.eval x = .slice (some ⟨g, 0, none⟩) m m) (hl : news.length = m) (hg : w.heap[g]? = some (.cells (cells news).toArray 5 (0, 0)))
    (hm : 0 < m) (hb : n + m ≤ 40000000) (hbase : base ≤ w.heap.size)
    (h : ∀ v' w', w'.ownsRow base 5 1 v' (n + m) (cells (xs ++ news)) → w.grownBy w' v.ownBlock → K (a.put o.dst v') w') : o.wp Tryd.prog a w K Q := by
  obtain ⟨i0, hi0, hz0, hz1, hz2⟩ := info_parts infoB
  refine wp_append_lies w s x _ ho base 5 i0 _ 1 1 Tryd.underlying29 hi0 hz0 hz1 hz2 rfl (by omega) v n (cells xs) hs hown ⟨g, 0, none⟩ m m (cells news) hx (by rw [cells_length]; omega) ?_ ?_ hm (by unfold maxLen; omega) (by omega) hbase _ rfl (fun g cap w' h2 h3 _ _ => h _ w' (by unfold cells at *; rw [List.map_append]; exact h2) h3)
  · exact World.news_of_block hg
  · intro u hu
    obtain ⟨c, _, rfl⟩ := List.mem_map.1 hu
    rfl
theorem wpList_app {w : World} {ops : Array Oper} {rest : List Oper} {o : Oper} {a : Act} {Q : Exit → Act → World → Prop} (hgd : o.guard = none) (s x : Operand)
    (ho : o.op = .call { callee := .builtin .append, args := #[s, x], argTypes := #[29, 29] })
    (base : Nat) (v : Value) (n : Nat) (xs : List Int) (hs : a.eval s = v) (hown : w.ownsRow base 5 1 v n (cells xs))
    (g m : Nat) (news : List Int) (hx : a.eval x = .slice (some ⟨g, 0, none⟩) m m) (hl : news.length = m) (hg : w.heap[g]? = some (.cells (cells news).toArray 5 (0, 0)))
    (hm : 0 < m) (hb : n + m ≤ 40000000) (hbase : base ≤ w.heap.size)
    (h : ∀ v' w', w'.ownsRow base 5 1 v' (n + m) (cells (xs ++ news)) → w.grownBy w' v.ownBlock → wpList Tryd.prog ops Q rest (a.put o.dst v') w') : wpList Tryd.prog ops Q (o :: rest) a w :=
  wpList_plain hgd fun _ hK => wp_app s x ho base v n xs hs hown g m news hx hl hg hm hb hbase fun v' w' h2 h3 => hK _ _ (h v' w' h2 h3)
/-- string(b) of a row of bytes of the call's own, nil too. -/
theorem str_own {w : World} {base n : Nat} {v : Value} {o : List UInt8} (h : w.ownsRow base 5 1 v n (cells (nums o))) :
    ∃ A c, v = .slice A n c ∧ ∀ dst, Tryd.prog.underlying dst = some .string → (convert 29 dst (.slice A n c)).run Tryd.prog w = .ok (.string (S o)) w := by
  obtain ⟨A, c, rfl, _, _, hl, _⟩ := lies_own h
  refine ⟨A, c, rfl, ?_⟩
  have hn : n = o.length := by
    have := h.1
    rw [cells_length, nums_length] at this
    omega
  subst hn
  by_cases h0 : 0 < (nums o).length
  · have := str_lies hl h0 c Tryd.underlying29 Tryd.underlying5
    rw [strOfNums_nums, nums_length] at this
    exact this
  · have ho : o = [] := List.eq_nil_of_length_eq_zero (by rw [nums_length] at h0; omega)
    subst ho
    intro dst hd
    rw [run_convert_bytes_string w _ dst 5 _ _ c Tryd.underlying29 Tryd.underlying5 hd]
    have e : S [] = ByteArray.empty := rfl
    rw [e]
    cases A <;> simp [Conv.bytesToString, loadCells]
    all_goals rfl
end Go.Proofs.YtakklljpngeocaaDoor

/- More of bits as lists. No walk here. -/
namespace Go.Proofs.YtakklljpngeocaaDoor
open Go.RowKit
set_option linter.unusedVariables false

theorem odd_eq (y : Nat) : ((y : Int) % 2 == 1) = (y % 2 == 1) := by
  rcases Nat.mod_two_eq_zero_or_one y with e | e
  · rw [show (y : Int) % 2 = 0 by omega, e]; rfl
  · rw [show (y : Int) % 2 = 1 by omega, e]; rfl
theorem size_box (w : World) (o : Obj) : (w.alloc o).heap.size = w.heap.size + 1 := by simp
theorem below_box (w : World) (o : Obj) : Below w.heap.size w (w.alloc o) := (Below.refl _ _).alloc (Nat.le_refl _) _
end Go.Proofs.YtakklljpngeocaaDoor

/- Rows of bytes of the call's own, as lists of bytes: append of a new block, of a string, of what lies somewhere; string(b). -/
namespace Go.Proofs.YtakklljpngeocaaDoor
set_option linter.unusedVariables false
open Go.RowKit

/-- A row of the call's own that reads as these bytes. -/
def Row (w : World) (base : Nat) (v : Value) (xs : List UInt8) : Prop := w.ownsRow base 5 1 v xs.length (cells (nums xs))
theorem Row.nil (w : World) (base : Nat) : Row w base (.slice none 0 0) [] := World.ownsRow_nil w base _ 1
theorem Row.later {w w' : World} {base : Nat} {v : Value} {xs : List UInt8} (h : Row w base v xs) (hb : Below w.heap.size w w') : Row w' base v xs :=
  World.ownsRow.kept h (gb_of_below none hb) (by cases v.ownBlock with
    | none => exact .inl rfl
    | some k => exact .inr (by simp))
theorem Row.drew {w : World} {base : Nat} {v : Value} {xs : List UInt8} (h : Row w base v xs) : Row w.drew base v xs := h
theorem Row.alloc {w : World} {base : Nat} {v : Value} {xs : List UInt8} (h : Row w base v xs) (o : Obj) : Row (w.alloc o) base v xs := World.ownsRow.alloc h o
theorem Row.mono {w : World} {base base' : Nat} {v : Value} {xs : List UInt8} (h : Row w base v xs) (hb : base' ≤ base) : Row w base' v xs := by
  obtain ⟨h1, h2⟩ := h
  refine ⟨h1, ?_⟩
  rcases h2 with h2 | ⟨g, cap, cur, e, hg, r⟩
  · exact .inl h2
  · exact .inr ⟨g, cap, cur, e, Nat.le_trans hb hg, r⟩
theorem Row.below {w w' : World} {base : Nat} {v : Value} {xs : List UInt8} (h : Row w base v xs) (hB : base ≤ w.heap.size) (hg : w.grownBy w' v.ownBlock) : Below base w w' :=
  Below.grown (Below.refl _ _) hg hB (fun k hk => (World.ownsRow.lt h k hk).1)
/-- A block of bytes, all of them read; H is its number as the walk writes it. -/
theorem Row.made (w : World) (xs : List UInt8) (base H : Nat) (hH : w.heap.size = H) (hb : base ≤ H) (hl : xs.length ≤ 40000000) :
    Row (w.alloc (.cells (cells (nums xs)).toArray 5)) base (.slice (some ⟨H, 0, none⟩) xs.length xs.length) xs := by
  subst hH
  have hn : (cells (nums xs)).length = xs.length := by rw [cells_length, nums_length]
  refine ⟨by omega, .inr ⟨w.heap.size, xs.length, (cells (nums xs)).toArray, rfl, hb, heap_alloc_new w _, Nat.le_refl _, by unfold maxLen; omega, by simp [hn], ?_⟩⟩
  rw [List.take_of_length_le (by simp [hn])]

section
variable {w : World} {ops : Array Oper} {rest : List Oper} {o : Oper} {a : Act} {Q : Exit → Act → World → Prop} {K : Act → World → Prop}
/-- append of a new block of bytes. -/
theorem row_new (hgd : o.guard = none) (s x : Operand)
    (ho : o.op = .call { callee := .builtin .append, args := #[s, x], argTypes := #[29, 29] })
    (B : Nat) (v : Value) (xs : List UInt8) (hs : a.eval s = v) (hr : Row w B v xs)
    (g m : Nat) (news : List UInt8) (hx : a.eval x = .slice (some ⟨g, 0, none⟩) m m) (hl : news.length = m) (hg : w.heap[g]? = some (.cells (cells (nums news)).toArray 5 (0, 0)))
    (hm : 0 < m) (hb : xs.length + news.length ≤ 40000000) (hB : B ≤ w.heap.size)
    (h : ∀ v' w', Row w' B v' (xs ++ news) → Below B w w' → wpList Tryd.prog ops Q rest (a.put o.dst v') w') : wpList Tryd.prog ops Q (o :: rest) a w :=
  wpList_app hgd s x ho B v _ (nums xs) hs hr g m (nums news) hx (by rw [nums_length]; exact hl) hg hm (by omega) hB fun v' w' h2 h3 =>
    h v' w' (by unfold Row; rw [nums_append, List.length_append, hl]; exact h2) (Row.below hr hB h3)
end

/-- string(b). -/
theorem Row.str {w : World} {base : Nat} {v : Value} {xs : List UInt8} (h : Row w base v xs) :
    ∃ A c, v = .slice A xs.length c ∧ ∀ dst, Tryd.prog.underlying dst = some .string → (convert 29 dst (.slice A xs.length c)).run Tryd.prog w = .ok (.string (S xs)) w := str_own h
/-- Bytes that a function hands back, in a row of its own. -/
def BytesL (l : List UInt8) (w : World) (e : Ending) (w' : World) : Prop := ∃ v, e = .returned v ∧ Row w' w.heap.size v l ∧ Below w.heap.size w w'
theorem Row.lies {w : World} {base : Nat} {v : Value} {xs : List UInt8} (h : Row w base v xs) : ∃ A c, v = .slice A xs.length c ∧ Lies w w.heap.size A (cells (nums xs)) := by
  obtain ⟨A, c, e, _, _, h3, _⟩ := lies_own h
  exact ⟨A, c, e, h3⟩
theorem Row.liesC {w : World} {base : Nat} {v : Value} {xs : List UInt8} (h : Row w base v xs) : ∃ A c, v = .slice A xs.length c ∧ xs.length ≤ c ∧ Lies w w.heap.size A (cells (nums xs)) := by
  obtain ⟨A, c, e, h2, _, h3, _⟩ := lies_own h
  exact ⟨A, c, e, h2, h3⟩
/-- string(b) of what a function handed back. -/
theorem str_lies' {w : World} {B : Nat} {A : Option Addr} {l : List UInt8} (h : Lies w B A (cells (nums l))) (hl : 0 < l.length) (c : Nat) :
    ∀ dst, Tryd.prog.underlying dst = some .string → (convert 29 dst (.slice A l.length c)).run Tryd.prog w = .ok (.string (S l)) w := by
  have := str_lies h (by rw [nums_length]; exact hl) c Tryd.underlying29 Tryd.underlying5
  rw [strOfNums_nums, nums_length] at this
  exact this
end Go.Proofs.YtakklljpngeocaaDoor

/- A region that draws its order, walked step by step: what is held of the world may grow on the way. -/
namespace Go.Proofs.YtakklljpngeocaaDoor
set_option linter.unusedVariables false
open Go.RowKit

section
variable {P : Program} {ops : Array Oper} {Q : Exit → Act → World → Prop} {md : Region.Mode} {S S' : World → Prop}
/-- Operation i first: it yields v in every world of which S is held. -/
theorem heldTake {i : Nat} {oi : Oper} {v : Value} {fuel : Nat} {listed : Array Bool} {a : Act} {w : World} (hi : ops[i]? = some oi)
    (hs : Region.noSelect ops = true) (hf : Region.free md ops listed i = true) (hr : (Region.ready md ops listed).contains i = true)
    (hS : S w) (hy : YieldsIf P ops S oi v a)
    (h : wpAnyH P md ops (NoPanic Q) S fuel (listed.setIfInBounds i true) (a.put oi.dst v) w) : wpAnyH P md ops (NoPanic Q) S (fuel + 1) listed a w :=
  wpAnyH_take hi hs hf hr (fun _ _ _ h => h) hy hS h
end

/-- Bytes handed back that stay what they are. -/
def Stays (A : Option Addr) (_c : Nat) (l : List UInt8) (W : World) : Prop := ∃ B, B ≤ W.heap.size ∧ Lies W B A (cells (nums l))
theorem Stays.on {A : Option Addr} {c : Nat} {l : List UInt8} {w1 w2 : World} (h : Stays A c l w1) (hb : Below w1.heap.size w1 w2) : Stays A c l w2 := by
  obtain ⟨B, h1, h2⟩ := h
  exact ⟨B, Nat.le_trans h1 hb.size, h2.below hb h1⟩
theorem Stays.str {A : Option Addr} {c : Nat} {l : List UInt8} {w : World} (h : Stays A c l w) (hl : 0 < l.length) :
    ∀ dst, Tryd.prog.underlying dst = some .string → (convert 29 dst (.slice A l.length c)).run Tryd.prog w = .ok (.string (S l)) w := by
  obtain ⟨B, _, h2⟩ := h
  exact str_lies' h2 hl c
end Go.Proofs.YtakklljpngeocaaDoor

/- creelref20: Low, Extend, Number, Bytes. -/
namespace Go.Proofs.YtakklljpngeocaaDoor
open Go.RowKit
set_option linter.unusedVariables false
set_option maxRecDepth 100000

theorem mod_succ (x j : Nat) : x % 2 ^ (j + 1) = x % 2 ^ j + 2 ^ j * (x / 2 ^ j % 2) := by rw [Nat.pow_succ, Nat.mod_mul]
theorem pow_le64 {j : Nat} (h : j < 64) : 2 ^ j ≤ 9223372036854775808 := Nat.pow_le_pow_right (by omega) (by omega : j ≤ 63)
set_option maxHeartbeats 2000000 in
/-- Low: of a number modulo a power of 2. -/
theorem low_any (x b : Nat) (w : World) (hx : x < 18446744073709551616) (hb : b ≤ 64) : Calls Tryd.prog 20 #[.int .u64 x, .int .i64 b] w fun e w' => e = .returned (.int .u64 ((x % 2 ^ b : Nat) : Int)) ∧ w = w' := by
  obtain ⟨R, hR⟩ : ∃ R, R = x % 2 ^ b := ⟨_, rfl⟩
  rw [← hR]
  have HR := Lib.hid hR
  clear hR
  go_enter Tryd.func20, Tryd.ntmps20
  go_wp2
  go_loop [0, 5, 6, 7] (fun v o k i => ∃ j : Nat, j ≤ b ∧ i = .int .i64 j ∧ v = .int .u64 ((x / 2 ^ j : Nat) : Int) ∧ o = .int .u64 ((x % 2 ^ j : Nat) : Int) ∧ k = .int .u64 ((2 ^ j % 18446744073709551616 : Nat) : Int)) (fun _ _ _ i => b - (intOf i).toNat)
  case atStart => exact ⟨0, Nat.zero_le _, rfl, by simp, by simp [Nat.mod_one], by simp⟩
  case round =>
    obtain ⟨j, hj, rfl, rfl, rfl, rfl⟩ := hrel
    by_cases hlt : j < b
    · have hp := pow_le64 (j := j) (by omega)
      have hp2 : 2 ^ j % 18446744073709551616 = 2 ^ j := Nat.mod_eq_of_lt (by omega)
      have HM := Lib.hid (mod_succ x j)
      have HD := Lib.hid (show x / 2 ^ (j + 1) = x / 2 ^ j / 2 by rw [Nat.div_div_eq_div_mul, Nat.pow_succ])
      have HP := Lib.hid (show 2 ^ (j + 1) % 18446744073709551616 = 2 ^ j * 2 % 18446744073709551616 by rw [Nat.pow_succ])
      have ho : x % 2 ^ j < 2 ^ j := Nat.mod_lt _ (Nat.two_pow_pos j)
      have hy : x / 2 ^ j < 18446744073709551616 := Nat.lt_of_le_of_lt (Nat.div_le_self _ _) hx
      rw [hp2]
      obtain ⟨y, hyy⟩ : ∃ y, y = x / 2 ^ j := ⟨_, rfl⟩
      obtain ⟨o, hoo⟩ : ∃ o, o = x % 2 ^ j := ⟨_, rfl⟩
      obtain ⟨m, hmm⟩ : ∃ m, m = 2 ^ j := ⟨_, rfl⟩
      rw [← hyy] at HD hy HM ⊢
      rw [← hoo] at ho HM ⊢
      rw [← hmm] at hp ho HM HP ⊢
      have q1 : IntKind.u64.wrap ((o : Int) + (m : Int)) = ((o + m : Nat) : Int) := by simp only [IntKind.wrap, IntKind.bits, IntKind.signed]; simp; omega
      have q2 : IntKind.u64.wrap ((m : Int) * 2) = ((m * 2 % 18446744073709551616 : Nat) : Int) := by simp only [IntKind.wrap, IntKind.bits, IntKind.signed]; simp
      have d64 : (j : Int) < 64 := by omega
      clear hyy hoo hmm hp2
      rcases Nat.mod_two_eq_zero_or_one y with e | e
      · have e2 : ((y : Int) % 2 == 1) = false := by rw [odd_eq, e]; rfl
        go_wp2
        go_round
        case rel => exact ⟨j + 1, by omega, by go_num, by rw [HD.out, Int.natCast_ediv]; rfl, by rw [HM.out, e]; simp, by rw [HP.out]; exact congrArg (Value.int .u64) (by omega)⟩
        case measure => simp [intOf]; omega
      · have e2 : ((y : Int) % 2 == 1) = true := by rw [odd_eq, e]; rfl
        go_wp2
        go_round
        case rel => exact ⟨j + 1, by omega, by go_num, by rw [HD.out, Int.natCast_ediv]; rfl, by rw [HM.out, e]; simp, by rw [HP.out]; exact congrArg (Value.int .u64) (by omega)⟩
        case measure => simp [intOf]; omega
    · obtain rfl : j = b := by omega
      go_wp2
      go_ret
      exact ⟨by rw [HR.out]; rfl, rfl⟩
/-- The sign stands in all bits above the n lowest bytes. -/
def extN (x n : Nat) : Nat := if x % 2 ^ (8 * n) = x % 2 ^ (8 * n - 1) then x % 2 ^ (8 * n) else x % 2 ^ (8 * n) + (2 ^ 64 - 2 ^ (8 * n))
set_option maxHeartbeats 2000000 in
theorem ext_out (x : Nat) (n : Int) (w : World) (h : n < 1 ∨ 8 < n) : Calls Tryd.prog 11 #[.int .u64 x, .int .i64 n] w fun e w' => e = .returned (.int .u64 x) ∧ w = w' := by
  by_cases h1 : n < 1
  · have d1 : decide (n < 1) = true := decide_eq_true h1
    clear h
    go_enter Tryd.func11, Tryd.ntmps11
    go_wp2
    go_ret
    exact ⟨rfl, rfl⟩
  · have d1 : decide (n < 1) = false := decide_eq_false h1
    have d2 : decide (8 < n) = true := decide_eq_true (by omega)
    clear h
    go_enter Tryd.func11, Tryd.ntmps11
    go_wp2
    go_ret
    exact ⟨rfl, rfl⟩
set_option maxHeartbeats 2000000 in
theorem ext_in (x n : Nat) (w : World) (hx : x < 18446744073709551616) (h1 : 1 ≤ n) (h8 : n ≤ 8) : Calls Tryd.prog 11 #[.int .u64 x, .int .i64 n] w fun e w' => e = .returned (.int .u64 (extN x n : Nat)) ∧ w = w' := by
  obtain ⟨b, hb⟩ : ∃ b, b = 8 * n := ⟨_, rfl⟩
  obtain ⟨c, hc⟩ : ∃ c, c = 8 * n - 1 := ⟨_, rfl⟩
  have r1 : 8 * (n : Int) = (b : Int) := by omega
  have r2 : (b : Int) - 1 = (c : Int) := by omega
  have HL1 := Lib.hid (fun W => low_any x b W hx (by omega))
  have HL2 := Lib.hid (fun W => low_any x c W hx (by omega))
  have hE : extN x n = if x % 2 ^ b = x % 2 ^ c then x % 2 ^ b else x % 2 ^ b + (2 ^ 64 - 2 ^ b) := by unfold extN; rw [← hb, show b - 1 = c by omega]
  have hlo : x % 2 ^ b < 2 ^ b := Nat.mod_lt _ (Nat.two_pow_pos b)
  obtain ⟨lo, hlo2⟩ : ∃ lo, lo = x % 2 ^ b := ⟨_, rfl⟩
  obtain ⟨l2, hl2⟩ : ∃ l2, l2 = x % 2 ^ c := ⟨_, rfl⟩
  rw [← hlo2] at HL1 hE hlo
  rw [← hl2] at HL2 hE
  rw [hE]
  have hb64 : b ≤ 64 := by omega
  have hb8 : 8 ≤ b := by omega
  clear hE hlo2 hl2 hb hc
  by_cases he : lo = l2
  · subst he
    rw [if_pos rfl]
    have ds : ((lo : Int) == (lo : Int)) = true := by simp
    go_enter Tryd.func11, Tryd.ntmps11
    go_wp2_with (first
      | (go_at_call 20; (with_reducible refine (HL1.out _).mono ?_); rintro e w1 ⟨rfl, rfl⟩)
      | (go_at_call 20; (with_reducible refine (HL2.out _).mono ?_); rintro e w1 ⟨rfl, rfl⟩))
    go_ret
    exact ⟨rfl, rfl⟩
  · rw [if_neg he]
    have ds : ((lo : Int) == (l2 : Int)) = false := by simp; omega
    obtain ⟨R, hR⟩ : ∃ R, R = lo + (2 ^ 64 - 2 ^ b) := ⟨_, rfl⟩
    rw [← hR]
    have HR := Lib.hid hR
    have HLo := Lib.hid hlo
    clear hR he hlo
    go_enter Tryd.func11, Tryd.ntmps11
    go_wp2_with (first
      | (go_at_call 20; (with_reducible refine (HL1.out _).mono ?_); rintro e w1 ⟨rfl, rfl⟩)
      | (go_at_call 20; (with_reducible refine (HL2.out _).mono ?_); rintro e w1 ⟨rfl, rfl⟩))
    go_loop [5, 6] (fun v i => ∃ j : Nat, b ≤ j ∧ j ≤ 64 ∧ i = .int .i64 j ∧ v = .int .u64 ((lo + (2 ^ j - 2 ^ b) : Nat) : Int)) (fun _ i => 64 - (intOf i).toNat)
    case atStart => exact ⟨b, Nat.le_refl _, hb64, rfl, by rw [Nat.sub_self, Nat.add_zero]⟩
    case round =>
      obtain ⟨j, hj1, hj2, rfl, rfl⟩ := hrel
      by_cases hlt : j < 64
      · have hp := pow_le64 hlt
        have hle : 2 ^ b ≤ 2 ^ j := Nat.pow_le_pow_right (by omega) hj1
        have hlo := HLo.out
        have HS := Lib.hid (show lo + (2 ^ (j + 1) - 2 ^ b) = lo + (2 ^ j - 2 ^ b) + 2 ^ j by rw [Nat.pow_succ]; omega)
        obtain ⟨y, hy⟩ : ∃ y, y = lo + (2 ^ j - 2 ^ b) := ⟨_, rfl⟩
        obtain ⟨m, hm⟩ : ∃ m, m = 2 ^ j := ⟨_, rfl⟩
        have hy2 : y < m := by omega
        rw [← hy, ← hm] at HS
        rw [← hy]
        have W1 := Lib.hid (show IntKind.u64.wrap ((y : Int) + IntKind.u64.wrap ((2 : Int) ^ j)) = ((y + m : Nat) : Int) by
          have q0 : (2 : Int) ^ j = (m : Int) := by rw [hm, Int.natCast_pow]; rfl
          have q3 : IntKind.u64.wrap (m : Int) = (m : Int) := by simp only [IntKind.wrap, IntKind.bits, IntKind.signed]; simp; omega
          rw [q0, q3]; simp only [IntKind.wrap, IntKind.bits, IntKind.signed]; simp; omega)
        clear hy hle hlo
        go_wp2
        go_round
        case rel => exact ⟨j + 1, by omega, by omega, by go_num, by rw [HS.out]; exact congrArg (Value.int .u64) W1.out⟩
        case measure => simp [intOf]; omega
      · obtain rfl : j = 64 := by omega
        go_wp2
        go_ret
        exact ⟨by rw [HR.out]; rfl, rfl⟩
/-- The number that bytes make, the lowest first. -/
def numB : List UInt8 → Nat
  | [] => 0
  | b :: r => b.toNat + 256 * numB r
theorem numB_lt : ∀ l : List UInt8, numB l < 256 ^ l.length
  | [] => by simp [numB]
  | b :: r => by
    have h := numB_lt r
    have := b.toNat_lt
    simp only [numB, List.length_cons, Nat.pow_succ]
    omega
theorem numB_snoc {l : List UInt8} {k : Nat} {x : UInt8} (h : l[k]? = some x) : numB (l.take (k + 1)) = numB (l.take k) + x.toNat * 256 ^ k := by
  have app : ∀ (a b : List UInt8), numB (a ++ b) = numB a + 256 ^ a.length * numB b := by
    intro a b
    induction a with
    | nil => simp [numB]
    | cons y r ih => simp only [List.cons_append, numB, ih, List.length_cons, Nat.pow_succ]; rw [Nat.mul_add, Nat.mul_comm (256 ^ r.length) 256, Nat.mul_assoc]; omega
  have hk := (List.getElem?_eq_some_iff.1 h).1
  rw [List.take_add_one, h, app, List.length_take, Nat.min_eq_left (by omega)]
  simp [numB, Nat.mul_comm]
set_option maxHeartbeats 2000000 in
theorem numberB (l : List UInt8) (w : World) (hl : (l.length : Int) ≤ 9223372036854775807) : Calls Tryd.prog 14 #[.string (S l)] w fun e w' => e = .returned (.int .u64 (numB (l.take 8))) ∧ w = w' := by
  have hsz := S_size l
  go_enter Tryd.func14, Tryd.ntmps14
  go_wp2
  go_loop [3, 4, 5] (fun v k i => ∃ j : Nat, j ≤ 8 ∧ j ≤ l.length ∧ i = .int .i64 j ∧ v = .int .u64 (numB (l.take j)) ∧ k = .int .u64 ((256 ^ j % 18446744073709551616 : Nat) : Int)) (fun _ _ i => 8 - (intOf i).toNat)
  case atStart => exact ⟨0, Nat.zero_le _, Nat.zero_le _, rfl, rfl, by simp⟩
  case round =>
    obtain ⟨j, hj, hjl, rfl, rfl, rfl⟩ := hrel
    by_cases h1 : j < l.length
    · have d1 : decide ((j : Int) < ((S l).size : Int)) = true := decide_eq_true (by omega)
      by_cases h2 : j < 8
      · obtain ⟨x, hx⟩ : ∃ x, l[j]? = some x := ⟨_, List.getElem?_eq_getElem h1⟩
        have HS := Lib.hid (numB_snoc hx)
        have hlt := numB_lt (l.take (j + 1))
        rw [HS.out, List.length_take, Nat.min_eq_left (by omega)] at hlt
        have hp : 256 ^ (j + 1) ≤ 256 ^ 8 := Nat.pow_le_pow_right (by omega) (by omega)
        have hp1 : 256 ^ (j + 1) = 256 ^ j * 256 := Nat.pow_succ _ _
        have hp2 : 256 ^ j % 18446744073709551616 = 256 ^ j := Nat.mod_eq_of_lt (by have : 256 ^ j ≤ 256 ^ 7 := Nat.pow_le_pow_right (by omega) (by omega); omega)
        have HP := Lib.hid (show 256 ^ (j + 1) % 18446744073709551616 = 256 ^ j * 256 % 18446744073709551616 by rw [Nat.pow_succ])
        have hg : ∀ hh : j < (S l).size, (S l)[j]'hh = x := fun hh => by rw [S_get l j hh]; exact (List.getElem?_eq_some_iff.1 hx).2
        rw [hp2]
        obtain ⟨m, hm⟩ : ∃ m, m = 256 ^ j := ⟨_, rfl⟩
        obtain ⟨v, hv⟩ : ∃ v, v = numB (l.take j) := ⟨_, rfl⟩
        rw [← hm] at HS HP hlt hp1 ⊢
        rw [← hv] at HS hlt ⊢
        obtain ⟨t, ht⟩ : ∃ t, t = x.toNat * m := ⟨_, rfl⟩
        rw [← ht] at HS hlt
        have q1 : IntKind.u64.wrap ((x.toNat : Int) * (m : Int)) = (t : Int) := by
          have e : (x.toNat : Int) * (m : Int) = (t : Int) := by rw [ht]; rfl
          rw [e]; simp only [IntKind.wrap, IntKind.bits, IntKind.signed]; simp; omega
        have q2 : IntKind.u64.wrap ((v : Int) + (t : Int)) = ((v + t : Nat) : Int) := by simp only [IntKind.wrap, IntKind.bits, IntKind.signed]; simp; omega
        have q3 : IntKind.u64.wrap ((m : Int) * 256) = ((m * 256 % 18446744073709551616 : Nat) : Int) := by simp only [IntKind.wrap, IntKind.bits, IntKind.signed]; simp
        have q4 : IntKind.u64.wrap (x.toNat : Int) = x.toNat := by have := x.toNat_lt; simp only [IntKind.wrap, IntKind.bits, IntKind.signed]; simp; omega
        clear hx hv hm ht
        go_wp2
        go_round
        case rel => exact ⟨j + 1, by omega, by omega, by go_num, by rw [HS.out]; exact congrArg (Value.int .u64) (by omega), by rw [HP.out]; exact congrArg (Value.int .u64) (by omega)⟩
        case measure => simp [intOf]; omega
      · obtain rfl : j = 8 := by omega
        go_wp2
        go_ret
        exact ⟨rfl, rfl⟩
    · obtain rfl : j = l.length := by omega
      have d1 : decide ((l.length : Int) < ((S l).size : Int)) = false := decide_eq_false (by omega)
      have HT := Lib.hid (show l.take 8 = l.take l.length by rw [List.take_of_length_le (by omega), List.take_length])
      go_wp2
      go_ret
      exact ⟨by rw [HT.out, List.take_length]; rfl, rfl⟩
end Go.Proofs.YtakklljpngeocaaDoor
