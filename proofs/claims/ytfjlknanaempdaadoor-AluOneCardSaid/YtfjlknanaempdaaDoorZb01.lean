/- Bits as lists: the numbers that they make, sums with a carry, products, quotients. No walk here. -/
import Derived.ProofKit
import Derived.Test.YtfjlknanaempdaaDoorRows
import Derived.WalkKit
import Derived.Laws.OwnMore
import Derived.Laws.Rows
import Derived.Deep.Draws
import Derived.Laws.BytesArg
import Derived.Laws.Strings
import Derived.Laws.BytesString
import Derived.Lib.Hide
import Derived.LoopTactic
import Derived.OwnWalk
import Derived.Deep.AppendLies
import Derived.KernelRfl
import Derived.Lib.BitFns
import Derived.Lib.TrailingZeros
import Derived.Lib.Small
namespace Go.Proofs.YtfjlknanaempdaaDoor
set_option linter.unusedVariables false

/-- The number that bits make, the lowest first. -/
def numL : List Bool → Nat
  | [] => 0
  | b :: r => b.toNat + 2 * numL r
/-- The n lowest bits of a number. -/
def bitsL : Nat → Nat → List Bool
  | 0, _ => []
  | n + 1, v => (v % 2 == 1) :: bitsL n (v / 2)
theorem bitsL_len : ∀ (n v : Nat), (bitsL n v).length = n
  | 0, _ => rfl
  | n + 1, v => by simp [bitsL, bitsL_len n]
theorem num_bits : ∀ (n v : Nat), numL (bitsL n v) = v % 2 ^ n
  | 0, v => by simp [bitsL, numL, Nat.mod_one]
  | n + 1, v => by
    simp only [bitsL, numL, num_bits n]
    have h : v % 2 ^ (n + 1) = v % 2 + 2 * (v / 2 % 2 ^ n) := by rw [Nat.pow_succ, Nat.mul_comm, Nat.mod_mul]
    rw [h]
    rcases Nat.mod_two_eq_zero_or_one v with e | e <;> simp [e]
end Go.Proofs.YtfjlknanaempdaaDoor

/- Small laws on memory: blocks known whole, worlds that grow, for every program. -/
namespace Go.Proofs.YtfjlknanaempdaaDoor
set_option linter.unusedVariables false
open Go.RowKit

/-- Block g is the cells cs of element type t, all of them writable. -/
def Whole (w : World) (g : Nat) (t : TypeId) (cs : Array Value) : Prop := w.heap[g]? = some (.cells cs t (0, 0))

theorem Whole.lt {w : World} {g : Nat} {t : TypeId} {cs : Array Value} (h : Whole w g t cs) : g < w.heap.size := by
  have h' : w.heap[g]? = some (.cells cs t (0, 0)) := h
  exact (Array.getElem?_eq_some_iff.1 h').1
theorem Whole.cell {w : World} {g : Nat} {t : TypeId} {cs : Array Value} (h : Whole w g t cs) (i : Nat) : w.cell? ⟨g, i, none⟩ = cs[i]? := cell_of_row w g i cs t (0, 0) h
theorem Whole.frozen {w : World} {g : Nat} {t : TypeId} {cs : Array Value} (h : Whole w g t cs) (i : Nat) : w.frozen? ⟨g, i, none⟩ = false := frozen_of_row w g i cs t h
theorem Whole.made (w : World) (t : TypeId) (cs : Array Value) : Whole (w.alloc (.cells cs t)) w.heap.size t cs := heap_alloc_new w _
theorem Whole.alloc {w : World} {g : Nat} {t : TypeId} {cs : Array Value} (h : Whole w g t cs) (o : Obj) : Whole (w.alloc o) g t cs := (Below.heap_alloc w o g h.lt).trans h
theorem Whole.put {w : World} {g : Nat} {t : TypeId} {cs : Array Value} (h : Whole w g t cs) (i : Nat) (u : Value) : Whole (w.setCell ⟨g, i, none⟩ u) g t (cs.setIfInBounds i u) := by
  have h' : w.heap[g]? = some (.cells cs t (0, 0)) := h
  show (w.setCell ⟨g, i, none⟩ u).heap[g]? = _
  simp [World.setCell, Array.getElem?_modify, h']
theorem Whole.grown {w w' : World} {g : Nat} {t : TypeId} {cs : Array Value} {row : Option Nat} (h : Whole w g t cs) (hg : w.grownBy w' row) (hr : some g ≠ row) : Whole w' g t cs := (hg.block g h.lt hr).trans h
theorem Whole.below {w w' : World} {g : Nat} {t : TypeId} {cs : Array Value} (h : Whole w g t cs) (hg : Below w.heap.size w w') : Whole w' g t cs := (hg.block g h.lt).trans h
theorem gb_of_below {w w1 : World} (row : Option Nat) (h : Below w.heap.size w w1) : w.grownBy w1 row := ⟨h.os, h.tape, h.output, h.size, fun i hi _ => h.block i hi⟩
end Go.Proofs.YtfjlknanaempdaaDoor

/- Strings as lists of bytes. No program here. -/
namespace Go.Proofs.YtfjlknanaempdaaDoor
set_option linter.unusedVariables false

/-- Bytes as numbers. -/
def nums (l : List UInt8) : List Int := l.map fun c => (c.toNat : Int)
theorem nums_length (l : List UInt8) : (nums l).length = l.length := by simp [nums]
end Go.Proofs.YtfjlknanaempdaaDoor

/- Slices that read as a list of values; slices of bytes as strings. -/
namespace Go.Proofs.YtfjlknanaempdaaDoor
set_option linter.unusedVariables false
open Go.RowKit

/-- The slice at A reads as the values vs, in blocks below B. -/
def Lies (w : World) (B : Nat) (A : Option Addr) (vs : List Value) : Prop :=
  ∀ i v, vs[i]? = some v → ∃ b off, A = some ⟨b, off, none⟩ ∧ b < B ∧ w.cell? ⟨b, off + i, none⟩ = some v

theorem Lies.nil {w : World} {B : Nat} {A : Option Addr} : Lies w B A [] := fun i v h => by simp at h
theorem Lies.more {w : World} {B B' : Nat} {A : Option Addr} {vs : List Value} (h : Lies w B A vs) (hb : B ≤ B') : Lies w B' A vs := fun i v hv => by
  obtain ⟨b, off, e, h1, h2⟩ := h i v hv
  exact ⟨b, off, e, by omega, h2⟩
theorem Lies.below {w w' : World} {B B' : Nat} {A : Option Addr} {vs : List Value} (h : Lies w B A vs) (hb : Below B' w w') (hB : B ≤ B') : Lies w' B A vs := fun i v hv => by
  obtain ⟨b, off, e, h1, h2⟩ := h i v hv
  exact ⟨b, off, e, h1, (hb.cell (p := ⟨b, off + i, none⟩) (by show b < _; omega)).trans h2⟩
theorem Lies.grown {w w' : World} {B : Nat} {A : Option Addr} {vs : List Value} {row : Option Nat} (h : Lies w B A vs) (hg : w.grownBy w' row) (hB : B ≤ w.heap.size) (hr : ∀ g, row = some g → B ≤ g) : Lies w' B A vs := fun i v hv => by
  obtain ⟨b, off, e, h1, h2⟩ := h i v hv
  refine ⟨b, off, e, h1, (World.cell?_of_block (a := ⟨b, off + i, none⟩) (hg.block b (by omega) ?_)).trans h2⟩
  intro e'
  have := hr b e'.symm
  omega
theorem Lies.take {w : World} {B : Nat} {A : Option Addr} {vs : List Value} (h : Lies w B A vs) (k : Nat) : Lies w B A (vs.take k) := fun i v hv => by
  rw [List.getElem?_take] at hv
  split at hv
  · exact h i v hv
  · cases hv

/-- Bytes as values. -/
def cells (l : List Int) : List Value := l.map (.int .u8)
theorem cells_length (l : List Int) : (cells l).length = l.length := by simp [cells]
/-- What a function that makes bytes hands back: the bytes l, in a row of its own. -/
def Bytes (l : List Int) (w : World) (e : Ending) (w' : World) : Prop :=
  ∃ A c, e = .returned (.slice A l.length c) ∧ l.length ≤ c ∧ c ≤ maxLen ∧ Lies w' w'.heap.size A (cells l) ∧ (∀ a, A = some a → w.heap.size ≤ a.block ∧ a.block < w'.heap.size) ∧ Below w.heap.size w w'

end Go.Proofs.YtfjlknanaempdaaDoor

/- More of bits as lists. No walk here. -/
namespace Go.Proofs.YtfjlknanaempdaaDoor
open Go.RowKit
set_option linter.unusedVariables false

theorem bitsL_snoc : ∀ (k x : Nat), bitsL (k + 1) x = bitsL k x ++ [(x / 2 ^ k % 2 == 1)]
  | 0, x => by simp [bitsL]
  | k + 1, x => by
    have ih := bitsL_snoc k (x / 2)
    have e : bitsL (k + 1 + 1) x = (x % 2 == 1) :: bitsL (k + 1) (x / 2) := rfl
    rw [e, ih, Nat.div_div_eq_div_mul, show 2 * 2 ^ k = 2 ^ (k + 1) by rw [Nat.pow_succ, Nat.mul_comm]]
    rfl
theorem drop_atB {l : List Bool} {k : Nat} {x : Bool} (h : l[k]? = some x) : l.drop k = x :: l.drop (k + 1) := by
  obtain ⟨h1, h2⟩ := List.getElem?_eq_some_iff.1 h
  rw [List.drop_eq_getElem_cons h1, h2]
theorem odd_eq (y : Nat) : ((y : Int) % 2 == 1) = (y % 2 == 1) := by
  rcases Nat.mod_two_eq_zero_or_one y with e | e
  · rw [show (y : Int) % 2 = 0 by omega, e]; rfl
  · rw [show (y : Int) % 2 = 1 by omega, e]; rfl
/-- How many bits are set; how many are not ahead of the first that is. -/
def cntL : List Bool → Nat
  | [] => 0
  | b :: r => b.toNat + cntL r
def tzL : List Bool → Nat
  | [] => 0
  | b :: r => if b then 0 else 1 + tzL r
theorem cntL_le : ∀ l : List Bool, cntL l ≤ l.length
  | [] => Nat.le_refl _
  | b :: r => by
    have := cntL_le r
    simp only [cntL, List.length_cons]
    cases b <;> simp <;> omega
theorem cntL_snoc {l : List Bool} {k : Nat} {x : Bool} (h : l[k]? = some x) : cntL (l.take (k + 1)) = cntL (l.take k) + x.toNat := by
  have app : ∀ (a b : List Bool), cntL (a ++ b) = cntL a + cntL b := by
    intro a b
    induction a with
    | nil => simp [cntL]
    | cons y r ih => simp only [List.cons_append, cntL, ih]; omega
  rw [List.take_add_one, h, app]
  simp [cntL]
theorem int_beq (m n : Nat) : ((m : Int) == (n : Int)) = (m == n) := by
  by_cases h : m = n
  · subst h; simp
  · have h2 : ¬ (m : Int) = (n : Int) := by omega
    rw [beq_eq_false_iff_ne.2 h2, beq_eq_false_iff_ne.2 h]
theorem size_box (w : World) (o : Obj) : (w.alloc o).heap.size = w.heap.size + 1 := by simp
theorem below_box (w : World) (o : Obj) : Below w.heap.size w (w.alloc o) := (Below.refl _ _).alloc (Nat.le_refl _) _
end Go.Proofs.YtfjlknanaempdaaDoor

/- What the bits of a result make as a number. No walk here. -/
namespace Go.Proofs.YtfjlknanaempdaaDoor
open Go.RowKit
set_option linter.unusedVariables false

end Go.Proofs.YtfjlknanaempdaaDoor

/- The results of the reference as numbers: sums, bits, shifts, signs, comparisons. No walk here. -/
namespace Go.Proofs.YtfjlknanaempdaaDoor
open Go.RowKit
set_option linter.unusedVariables false

section
variable {n : Nat} {a b : List Bool}
end
/-- A number below 2^n is what its n bits make. -/
theorem num_of {n v : Nat} (h : v < 2 ^ n) : numL (bitsL n v) = v := by rw [num_bits, Nat.mod_eq_of_lt h]
/-- How many bits are set, of a number. -/
theorem cntL_zero : ∀ l : List Bool, cntL l = 0 ↔ numL l = 0
  | [] => by simp [cntL, numL]
  | b :: r => by
    have ih := cntL_zero r
    simp only [cntL, numL]
    cases b <;> simp <;> omega
end Go.Proofs.YtfjlknanaempdaaDoor

/- Zero bits ahead, zero bits behind, bits that are set: the reference's counts are the library's. No walk here. -/
namespace Go.Proofs.YtfjlknanaempdaaDoor
open Go.RowKit
set_option linter.unusedVariables false
theorem popAux_zero : ∀ n, Lib.popAux n 0 = 0
  | 0 => rfl
  | n + 1 => by simp [Lib.popAux, popAux_zero n]
theorem popAux_add : ∀ (a b v : Nat), Lib.popAux (a + b) v = Lib.popAux a v + Lib.popAux b (v / 2 ^ a)
  | 0, b, v => by simp [Lib.popAux]
  | a + 1, b, v => by
    have e : a + 1 + b = (a + b) + 1 := by omega
    rw [e]
    simp only [Lib.popAux]
    rw [popAux_add a b (v / 2), Nat.div_div_eq_div_mul, show 2 * 2 ^ a = 2 ^ (a + 1) by rw [Nat.pow_succ, Nat.mul_comm]]
    omega
theorem popAux_mod : ∀ (a v : Nat), Lib.popAux a (v % 2 ^ a) = Lib.popAux a v
  | 0, v => rfl
  | a + 1, v => by
    simp only [Lib.popAux]
    have h1 : v % 2 ^ (a + 1) % 2 = v % 2 := by rw [Nat.pow_succ, Nat.mul_comm]; exact Nat.mod_mul_right_mod v 2 (2 ^ a)
    have h2 : v % 2 ^ (a + 1) / 2 = v / 2 % 2 ^ a := by rw [Nat.pow_succ, Nat.mul_comm]; exact Nat.mod_mul_right_div_self v 2 (2 ^ a)
    rw [h1, h2, popAux_mod a (v / 2)]
theorem pop_of {n v : Nat} (hv : v < 2 ^ n) (hn : n ≤ 64) : Lib.onesCount v = Lib.popAux n v := by
  unfold Lib.onesCount
  obtain ⟨k, hk⟩ : ∃ k, 64 = n + k := ⟨64 - n, by omega⟩
  rw [hk, popAux_add, Nat.div_eq_of_lt hv, popAux_zero]
  omega
theorem cnt_pop : ∀ (n v : Nat), cntL (bitsL n v) = Lib.popAux n v
  | 0, v => rfl
  | n + 1, v => by
    simp only [bitsL, cntL, Lib.popAux]
    rw [cnt_pop n (v / 2)]
    rcases Nat.mod_two_eq_zero_or_one v with h | h <;> simp [h]
theorem tz_ctz : ∀ (n v : Nat), tzL (bitsL n v) = Lib.ctzFrom n v
  | 0, v => rfl
  | n + 1, v => by
    simp only [bitsL, tzL, Lib.ctzFrom]
    rw [tz_ctz n (v / 2)]
    rcases Nat.mod_two_eq_zero_or_one v with h | h <;> simp [h]
theorem ctz_zero : ∀ n, Lib.ctzFrom n 0 = n
  | 0 => rfl
  | n + 1 => by simp [Lib.ctzFrom, ctz_zero n]; omega
theorem ctz_of (n v : Nat) : Lib.ctz n v = tzL (bitsL n v) := by
  rw [tz_ctz]
  unfold Lib.ctz
  split
  · rename_i h; rw [h, ctz_zero]
  · rfl
theorem tzL_le : ∀ l : List Bool, tzL l ≤ l.length
  | [] => Nat.le_refl _
  | b :: r => by
    have := tzL_le r
    simp only [tzL, List.length_cons]
    split <;> omega
theorem bitLenAux_zero : ∀ f, Lib.bitLenAux f 0 = 0
  | 0 => rfl
  | f + 1 => by simp [Lib.bitLenAux]
theorem bitLen_eq : ∀ (k f x : Nat), 2 ^ k ≤ x → x < 2 ^ (k + 1) → k < f → Lib.bitLenAux f x = k + 1
  | k, 0, x, _, _, h => by omega
  | 0, f + 1, x, h1, h2, _ => by
    have : x = 1 := by simp at h1 h2; omega
    subst this
    simp [Lib.bitLenAux, bitLenAux_zero]
  | k + 1, f + 1, x, h1, h2, h3 => by
    have a1 : 2 ^ k ≤ x / 2 := by rw [Nat.pow_succ] at h1; omega
    have a2 : x / 2 < 2 ^ (k + 1) := by rw [Nat.pow_succ] at h2; omega
    have ih := bitLen_eq k f (x / 2) a1 a2 (by omega)
    have hx : x ≠ 0 := by intro h; subst h; simp at a1
    simp only [Lib.bitLenAux]
    rw [if_neg hx, ih]
    omega
theorem clz_of : ∀ {n v : Nat}, v < 2 ^ n → n ≤ 64 → tzL (bitsL n v).reverse + Lib.bitLen v = n
  | 0, v, hv, _ => by
    have : v = 0 := by simpa using hv
    subst this
    simp [bitsL, tzL, Lib.bitLen, bitLenAux_zero]
  | n + 1, v, hv, hn => by
    rw [bitsL_snoc, List.reverse_append, List.reverse_singleton, List.singleton_append]
    simp only [tzL]
    by_cases h : 2 ^ n ≤ v
    · have e : v / 2 ^ n = 1 := by
        rw [Nat.pow_succ] at hv
        exact Nat.div_eq_of_lt_le (by omega) (by omega)
      rw [e]
      have := bitLen_eq n 64 v h hv (by omega)
      simp [Lib.bitLen, this]
    · have e : v / 2 ^ n = 0 := Nat.div_eq_of_lt (by omega)
      rw [e]
      have ih := clz_of (n := n) (v := v) (by omega) (by omega)
      simp
      omega
/-- The four bytes of a number, counted. -/
theorem pop_four {v : Nat} (hv : v < 4294967296) : Lib.pop8 ((v / 16777216 : Nat) : Int) + Lib.pop8 ((v / 65536 % 256 : Nat) : Int) + Lib.pop8 ((v / 256 % 256 : Nat) : Int) + Lib.pop8 ((v % 256 : Nat) : Int) = (Lib.onesCount v : Int) := by
  have p : ∀ n, n < 256 → Lib.pop8 ((n : Nat) : Int) = (Lib.popAux 8 n : Int) := fun n hn => by rw [← pop_of (n := 8) hn (by decide)]; exact Lib.pop8_eq ⟨n, hn⟩
  rw [p _ (by omega), p _ (by omega), p _ (by omega), p _ (by omega), pop_of (n := 32) hv (by decide)]
  have e1 := popAux_add 8 24 v
  have e2 := popAux_add 8 16 (v / 256)
  have e3 := popAux_add 8 8 (v / 65536)
  have m0 := popAux_mod 8 v
  have m1 := popAux_mod 8 (v / 256)
  have m2 := popAux_mod 8 (v / 65536)
  simp only [show 2 ^ 8 = 256 by decide, Nat.div_div_eq_div_mul, show (256 * 256 : Nat) = 65536 by decide, show (65536 * 256 : Nat) = 16777216 by decide, show 8 + 24 = 32 by decide, show 8 + 16 = 24 by decide, show 8 + 8 = 16 by decide] at e1 e2 e3 m0 m1 m2
  omega
end Go.Proofs.YtfjlknanaempdaaDoor
