/- Bits as lists: the numbers that they make, sums with a carry, products, quotients. No walk here. -/
import Derived.ProofKit
import Derived.Test.YtjgdfajooccalaaDoorRows
import Derived.WalkKit
import Derived.Laws.OwnMore
import Derived.Laws.Rows
import Derived.Deep.Draws
import Derived.Laws.BytesArg
import Derived.Laws.Strings
import Derived.Laws.BytesString
import Derived.Lib.Hide
import Derived.LoopTactic
import Derived.OwnWalk
import Derived.Deep.AppendLies
import Derived.KernelRfl
import Derived.Lib.BitFns
import Derived.Lib.TrailingZeros
import Derived.Lib.Small
import Derived.Laws.BitsAllLaws
namespace Go.Proofs.YtjgdfajooccalaaDoor
set_option linter.unusedVariables false

/-- The number that bits make, the lowest first. -/
def numL : List Bool → Nat
  | [] => 0
  | b :: r => b.toNat + 2 * numL r
/-- The n lowest bits of a number. -/
def bitsL : Nat → Nat → List Bool
  | 0, _ => []
  | n + 1, v => (v % 2 == 1) :: bitsL n (v / 2)
theorem bitsL_len : ∀ (n v : Nat), (bitsL n v).length = n
  | 0, _ => rfl
  | n + 1, v => by simp [bitsL, bitsL_len n]
theorem num_bits : ∀ (n v : Nat), numL (bitsL n v) = v % 2 ^ n
  | 0, v => by simp [bitsL, numL, Nat.mod_one]
  | n + 1, v => by
    simp only [bitsL, numL, num_bits n]
    have h : v % 2 ^ (n + 1) = v % 2 + 2 * (v / 2 % 2 ^ n) := by rw [Nat.pow_succ, Nat.mul_comm, Nat.mod_mul]
    rw [h]
    rcases Nat.mod_two_eq_zero_or_one v with e | e <;> simp [e]
end Go.Proofs.YtjgdfajooccalaaDoor

/- Small laws on memory: blocks known whole, worlds that grow, for every program. -/
namespace Go.Proofs.YtjgdfajooccalaaDoor
set_option linter.unusedVariables false
open Go.RowKit

/-- Block g is the cells cs of element type t, all of them writable. -/
def Whole (w : World) (g : Nat) (t : TypeId) (cs : Array Value) : Prop := w.heap[g]? = some (.cells cs t (0, 0))

theorem Whole.lt {w : World} {g : Nat} {t : TypeId} {cs : Array Value} (h : Whole w g t cs) : g < w.heap.size := by
  have h' : w.heap[g]? = some (.cells cs t (0, 0)) := h
  exact (Array.getElem?_eq_some_iff.1 h').1
theorem Whole.cell {w : World} {g : Nat} {t : TypeId} {cs : Array Value} (h : Whole w g t cs) (i : Nat) : w.cell? ⟨g, i, none⟩ = cs[i]? := cell_of_row w g i cs t (0, 0) h
theorem Whole.frozen {w : World} {g : Nat} {t : TypeId} {cs : Array Value} (h : Whole w g t cs) (i : Nat) : w.frozen? ⟨g, i, none⟩ = false := frozen_of_row w g i cs t h
theorem Whole.made (w : World) (t : TypeId) (cs : Array Value) : Whole (w.alloc (.cells cs t)) w.heap.size t cs := heap_alloc_new w _
theorem Whole.alloc {w : World} {g : Nat} {t : TypeId} {cs : Array Value} (h : Whole w g t cs) (o : Obj) : Whole (w.alloc o) g t cs := (Below.heap_alloc w o g h.lt).trans h
theorem Whole.put {w : World} {g : Nat} {t : TypeId} {cs : Array Value} (h : Whole w g t cs) (i : Nat) (u : Value) : Whole (w.setCell ⟨g, i, none⟩ u) g t (cs.setIfInBounds i u) := by
  have h' : w.heap[g]? = some (.cells cs t (0, 0)) := h
  show (w.setCell ⟨g, i, none⟩ u).heap[g]? = _
  simp [World.setCell, Array.getElem?_modify, h']
theorem Whole.grown {w w' : World} {g : Nat} {t : TypeId} {cs : Array Value} {row : Option Nat} (h : Whole w g t cs) (hg : w.grownBy w' row) (hr : some g ≠ row) : Whole w' g t cs := (hg.block g h.lt hr).trans h
theorem Whole.below {w w' : World} {g : Nat} {t : TypeId} {cs : Array Value} (h : Whole w g t cs) (hg : Below w.heap.size w w') : Whole w' g t cs := (hg.block g h.lt).trans h
theorem gb_of_below {w w1 : World} (row : Option Nat) (h : Below w.heap.size w w1) : w.grownBy w1 row := ⟨h.os, h.tape, h.output, h.size, fun i hi _ => h.block i hi⟩
end Go.Proofs.YtjgdfajooccalaaDoor

/- Strings as lists of bytes. No program here. -/
namespace Go.Proofs.YtjgdfajooccalaaDoor
set_option linter.unusedVariables false

/-- Bytes as numbers. -/
def nums (l : List UInt8) : List Int := l.map fun c => (c.toNat : Int)
theorem nums_length (l : List UInt8) : (nums l).length = l.length := by simp [nums]
end Go.Proofs.YtjgdfajooccalaaDoor

/- Slices that read as a list of values; slices of bytes as strings. -/
namespace Go.Proofs.YtjgdfajooccalaaDoor
set_option linter.unusedVariables false
open Go.RowKit

/-- The slice at A reads as the values vs, in blocks below B. -/
def Lies (w : World) (B : Nat) (A : Option Addr) (vs : List Value) : Prop :=
  ∀ i v, vs[i]? = some v → ∃ b off, A = some ⟨b, off, none⟩ ∧ b < B ∧ w.cell? ⟨b, off + i, none⟩ = some v

theorem Lies.nil {w : World} {B : Nat} {A : Option Addr} : Lies w B A [] := fun i v h => by simp at h
theorem Lies.more {w : World} {B B' : Nat} {A : Option Addr} {vs : List Value} (h : Lies w B A vs) (hb : B ≤ B') : Lies w B' A vs := fun i v hv => by
  obtain ⟨b, off, e, h1, h2⟩ := h i v hv
  exact ⟨b, off, e, by omega, h2⟩
theorem Lies.below {w w' : World} {B B' : Nat} {A : Option Addr} {vs : List Value} (h : Lies w B A vs) (hb : Below B' w w') (hB : B ≤ B') : Lies w' B A vs := fun i v hv => by
  obtain ⟨b, off, e, h1, h2⟩ := h i v hv
  exact ⟨b, off, e, h1, (hb.cell (p := ⟨b, off + i, none⟩) (by show b < _; omega)).trans h2⟩
theorem Lies.grown {w w' : World} {B : Nat} {A : Option Addr} {vs : List Value} {row : Option Nat} (h : Lies w B A vs) (hg : w.grownBy w' row) (hB : B ≤ w.heap.size) (hr : ∀ g, row = some g → B ≤ g) : Lies w' B A vs := fun i v hv => by
  obtain ⟨b, off, e, h1, h2⟩ := h i v hv
  refine ⟨b, off, e, h1, (World.cell?_of_block (a := ⟨b, off + i, none⟩) (hg.block b (by omega) ?_)).trans h2⟩
  intro e'
  have := hr b e'.symm
  omega
theorem Lies.take {w : World} {B : Nat} {A : Option Addr} {vs : List Value} (h : Lies w B A vs) (k : Nat) : Lies w B A (vs.take k) := fun i v hv => by
  rw [List.getElem?_take] at hv
  split at hv
  · exact h i v hv
  · cases hv

/-- Bytes as values. -/
def cells (l : List Int) : List Value := l.map (.int .u8)
theorem cells_length (l : List Int) : (cells l).length = l.length := by simp [cells]
/-- What a function that makes bytes hands back: the bytes l, in a row of its own. -/
def Bytes (l : List Int) (w : World) (e : Ending) (w' : World) : Prop :=
  ∃ A c, e = .returned (.slice A l.length c) ∧ l.length ≤ c ∧ c ≤ maxLen ∧ Lies w' w'.heap.size A (cells l) ∧ (∀ a, A = some a → w.heap.size ≤ a.block ∧ a.block < w'.heap.size) ∧ Below w.heap.size w w'

end Go.Proofs.YtjgdfajooccalaaDoor

/- More of bits as lists. No walk here. -/
namespace Go.Proofs.YtjgdfajooccalaaDoor
open Go.RowKit
set_option linter.unusedVariables false

theorem bitsL_snoc : ∀ (k x : Nat), bitsL (k + 1) x = bitsL k x ++ [(x / 2 ^ k % 2 == 1)]
  | 0, x => by simp [bitsL]
  | k + 1, x => by
    have ih := bitsL_snoc k (x / 2)
    have e : bitsL (k + 1 + 1) x = (x % 2 == 1) :: bitsL (k + 1) (x / 2) := rfl
    rw [e, ih, Nat.div_div_eq_div_mul, show 2 * 2 ^ k = 2 ^ (k + 1) by rw [Nat.pow_succ, Nat.mul_comm]]
    rfl
theorem drop_atB {l : List Bool} {k : Nat} {x : Bool} (h : l[k]? = some x) : l.drop k = x :: l.drop (k + 1) := by
  obtain ⟨h1, h2⟩ := List.getElem?_eq_some_iff.1 h
  rw [List.drop_eq_getElem_cons h1, h2]
theorem odd_eq (y : Nat) : ((y : Int) % 2 == 1) = (y % 2 == 1) := by
  rcases Nat.mod_two_eq_zero_or_one y with e | e
  · rw [show (y : Int) % 2 = 0 by omega, e]; rfl
  · rw [show (y : Int) % 2 = 1 by omega, e]; rfl
/-- How many bits are set; how many are not ahead of the first that is. -/
def cntL : List Bool → Nat
  | [] => 0
  | b :: r => b.toNat + cntL r
def tzL : List Bool → Nat
  | [] => 0
  | b :: r => if b then 0 else 1 + tzL r
theorem cntL_le : ∀ l : List Bool, cntL l ≤ l.length
  | [] => Nat.le_refl _
  | b :: r => by
    have := cntL_le r
    simp only [cntL, List.length_cons]
    cases b <;> simp <;> omega
theorem cntL_snoc {l : List Bool} {k : Nat} {x : Bool} (h : l[k]? = some x) : cntL (l.take (k + 1)) = cntL (l.take k) + x.toNat := by
  have app : ∀ (a b : List Bool), cntL (a ++ b) = cntL a + cntL b := by
    intro a b
    induction a with
    | nil => simp [cntL]
    | cons y r ih => simp only [List.cons_append, cntL, ih]; omega
  rw [List.take_add_one, h, app]
  simp [cntL]
theorem int_beq (m n : Nat) : ((m : Int) == (n : Int)) = (m == n) := by
  by_cases h : m = n
  · subst h; simp
  · have h2 : ¬ (m : Int) = (n : Int) := by omega
    rw [beq_eq_false_iff_ne.2 h2, beq_eq_false_iff_ne.2 h]
theorem size_box (w : World) (o : Obj) : (w.alloc o).heap.size = w.heap.size + 1 := by simp
theorem below_box (w : World) (o : Obj) : Below w.heap.size w (w.alloc o) := (Below.refl _ _).alloc (Nat.le_refl _) _
end Go.Proofs.YtjgdfajooccalaaDoor

/- What the bits of a result make as a number. No walk here. -/
namespace Go.Proofs.YtjgdfajooccalaaDoor
open Go.RowKit
set_option linter.unusedVariables false

end Go.Proofs.YtjgdfajooccalaaDoor

/- The results of the reference as numbers: sums, bits, shifts, signs, comparisons. No walk here. -/
namespace Go.Proofs.YtjgdfajooccalaaDoor
open Go.RowKit
set_option linter.unusedVariables false

section
variable {n : Nat} {a b : List Bool}
end
/-- A number below 2^n is what its n bits make. -/
theorem num_of {n v : Nat} (h : v < 2 ^ n) : numL (bitsL n v) = v := by rw [num_bits, Nat.mod_eq_of_lt h]
/-- How many bits are set, of a number. -/
theorem cntL_zero : ∀ l : List Bool, cntL l = 0 ↔ numL l = 0
  | [] => by simp [cntL, numL]
  | b :: r => by
    have ih := cntL_zero r
    simp only [cntL, numL]
    cases b <;> simp <;> omega
end Go.Proofs.YtjgdfajooccalaaDoor

/- Zero bits ahead, zero bits behind, bits that are set: the reference's counts are the library's. No walk here. -/
namespace Go.Proofs.YtjgdfajooccalaaDoor
open Go.RowKit
set_option linter.unusedVariables false
theorem popAux_zero : ∀ n, Lib.popAux n 0 = 0
  | 0 => rfl
  | n + 1 => by simp [Lib.popAux, popAux_zero n]
theorem popAux_add : ∀ (a b v : Nat), Lib.popAux (a + b) v = Lib.popAux a v + Lib.popAux b (v / 2 ^ a)
  | 0, b, v => by simp [Lib.popAux]
  | a + 1, b, v => by
    have e : a + 1 + b = (a + b) + 1 := by omega
    rw [e]
    simp only [Lib.popAux]
    rw [popAux_add a b (v / 2), Nat.div_div_eq_div_mul, show 2 * 2 ^ a = 2 ^ (a + 1) by rw [Nat.pow_succ, Nat.mul_comm]]
    omega
theorem pop_of {n v : Nat} (hv : v < 2 ^ n) (hn : n ≤ 64) : Lib.onesCount v = Lib.popAux n v := by
  unfold Lib.onesCount
  obtain ⟨k, hk⟩ : ∃ k, 64 = n + k := ⟨64 - n, by omega⟩
  rw [hk, popAux_add, Nat.div_eq_of_lt hv, popAux_zero]
  omega
theorem cnt_pop : ∀ (n v : Nat), cntL (bitsL n v) = Lib.popAux n v
  | 0, v => rfl
  | n + 1, v => by
    simp only [bitsL, cntL, Lib.popAux]
    rw [cnt_pop n (v / 2)]
    rcases Nat.mod_two_eq_zero_or_one v with h | h <;> simp [h]
theorem tz_ctz : ∀ (n v : Nat), tzL (bitsL n v) = Lib.ctzFrom n v
  | 0, v => rfl
  | n + 1, v => by
    simp only [bitsL, tzL, Lib.ctzFrom]
    rw [tz_ctz n (v / 2)]
    rcases Nat.mod_two_eq_zero_or_one v with h | h <;> simp [h]
theorem ctz_zero : ∀ n, Lib.ctzFrom n 0 = n
  | 0 => rfl
  | n + 1 => by simp [Lib.ctzFrom, ctz_zero n]; omega
theorem ctz_of (n v : Nat) : Lib.ctz n v = tzL (bitsL n v) := by
  rw [tz_ctz]
  unfold Lib.ctz
  split
  · rename_i h; rw [h, ctz_zero]
  · rfl
theorem tzL_le : ∀ l : List Bool, tzL l ≤ l.length
  | [] => Nat.le_refl _
  | b :: r => by
    have := tzL_le r
    simp only [tzL, List.length_cons]
    split <;> omega
theorem bitLenAux_zero : ∀ f, Lib.bitLenAux f 0 = 0
  | 0 => rfl
  | f + 1 => by simp [Lib.bitLenAux]
theorem bitLen_eq : ∀ (k f x : Nat), 2 ^ k ≤ x → x < 2 ^ (k + 1) → k < f → Lib.bitLenAux f x = k + 1
  | k, 0, x, _, _, h => by omega
  | 0, f + 1, x, h1, h2, _ => by
    have : x = 1 := by simp at h1 h2; omega
    subst this
    simp [Lib.bitLenAux, bitLenAux_zero]
  | k + 1, f + 1, x, h1, h2, h3 => by
    have a1 : 2 ^ k ≤ x / 2 := by rw [Nat.pow_succ] at h1; omega
    have a2 : x / 2 < 2 ^ (k + 1) := by rw [Nat.pow_succ] at h2; omega
    have ih := bitLen_eq k f (x / 2) a1 a2 (by omega)
    have hx : x ≠ 0 := by intro h; subst h; simp at a1
    simp only [Lib.bitLenAux]
    rw [if_neg hx, ih]
    omega
theorem clz_of : ∀ {n v : Nat}, v < 2 ^ n → n ≤ 64 → tzL (bitsL n v).reverse + Lib.bitLen v = n
  | 0, v, hv, _ => by
    have : v = 0 := by simpa using hv
    subst this
    simp [bitsL, tzL, Lib.bitLen, bitLenAux_zero]
  | n + 1, v, hv, hn => by
    rw [bitsL_snoc, List.reverse_append, List.reverse_singleton, List.singleton_append]
    simp only [tzL]
    by_cases h : 2 ^ n ≤ v
    · have e : v / 2 ^ n = 1 := by
        rw [Nat.pow_succ] at hv
        exact Nat.div_eq_of_lt_le (by omega) (by omega)
      rw [e]
      have := bitLen_eq n 64 v h hv (by omega)
      simp [Lib.bitLen, this]
    · have e : v / 2 ^ n = 0 := Nat.div_eq_of_lt (by omega)
      rw [e]
      have ih := clz_of (n := n) (v := v) (by omega) (by omega)
      simp
      omega
end Go.Proofs.YtjgdfajooccalaaDoor

/- Bits counted in fields of two, four, eight: what package math/bits makes of 64 bits is how many are set. No walk here. -/
namespace Go.Proofs.YtjgdfajooccalaaDoor
open Go.RowKit
set_option linter.unusedVariables false
/-- The even fields of w bits, n of them. -/
def evF (w : Nat) : Nat → Nat → Nat
  | 0, _ => 0
  | n + 1, y => y % 2 ^ w + 2 ^ (2 * w) * evF w n (y / 2 ^ (2 * w))
/-- The mask of the even fields. -/
def mkF (w : Nat) : Nat → Nat
  | 0 => 0
  | n + 1 => (2 ^ w - 1) + 2 ^ (2 * w) * mkF w n
/-- The counts of the fields of w bits, each in its field. -/
def pcF (w : Nat) : Nat → Nat → Nat
  | 0, _ => 0
  | n + 1, x => Lib.popAux w x + 2 ^ w * pcF w n (x / 2 ^ w)
theorem and_split (a b c d k : Nat) (ha : a < 2 ^ k) (hc : c < 2 ^ k) : (a + 2 ^ k * b) &&& (c + 2 ^ k * d) = (a &&& c) + 2 ^ k * (b &&& d) := by
  apply Nat.eq_of_testBit_eq
  intro i
  have hac : a &&& c < 2 ^ k := Nat.lt_of_le_of_lt Nat.and_le_left ha
  rw [Nat.testBit_and]
  rw [show a + 2 ^ k * b = 2 ^ k * b + a by omega, show c + 2 ^ k * d = 2 ^ k * d + c by omega, show (a &&& c) + 2 ^ k * (b &&& d) = 2 ^ k * (b &&& d) + (a &&& c) by omega]
  rw [Nat.testBit_two_pow_mul_add _ ha, Nat.testBit_two_pow_mul_add _ hc, Nat.testBit_two_pow_mul_add _ hac]
  split
  · rw [Nat.testBit_and]
  · rw [Nat.testBit_and]
theorem ev_mask (w : Nat) : ∀ (n y : Nat), y &&& mkF w n = evF w n y
  | 0, y => by simp [mkF, evF]
  | n + 1, y => by
    simp only [mkF, evF]
    have hp := Nat.two_pow_pos w
    have hp2 := Nat.two_pow_pos (2 * w)
    have hle : 2 ^ w ≤ 2 ^ (2 * w) := Nat.pow_le_pow_right (by decide) (by omega)
    conv => lhs; rw [← Nat.mod_add_div y (2 ^ (2 * w))]
    rw [and_split _ _ _ _ _ (Nat.mod_lt _ hp2) (by omega), ev_mask w n, Nat.and_two_pow_sub_one_eq_mod]
    congr 1
    rw [show 2 * w = w + w by omega, Nat.pow_add]
    exact Nat.mod_mul_right_mod _ _ _
theorem popAux_le : ∀ (n v : Nat), Lib.popAux n v ≤ n
  | 0, _ => Nat.le_refl _
  | n + 1, v => by
    have := popAux_le n (v / 2)
    simp only [Lib.popAux]
    omega
theorem lt_pow : ∀ w : Nat, w < 2 ^ w := fun w => Nat.lt_two_pow_self
theorem pc_two {w n x : Nat} : pcF w (n + 2) x = Lib.popAux w x + 2 ^ w * (Lib.popAux w (x / 2 ^ w) + 2 ^ w * pcF w n (x / 2 ^ (2 * w))) := by
  simp only [pcF]
  rw [Nat.div_div_eq_div_mul, ← Nat.pow_add, show w + w = 2 * w by omega]
theorem two_fields {w a b r : Nat} (ha : a < 2 ^ w) (hb : b < 2 ^ w) : (a + 2 ^ w * (b + 2 ^ w * r)) % 2 ^ w = a ∧ (a + 2 ^ w * (b + 2 ^ w * r)) / 2 ^ w = b + 2 ^ w * r ∧ (a + 2 ^ w * (b + 2 ^ w * r)) / 2 ^ (2 * w) = r ∧ (b + 2 ^ w * r) % 2 ^ w = b ∧ (b + 2 ^ w * r) / 2 ^ w = r ∧ (b + 2 ^ w * r) / 2 ^ (2 * w) = r / 2 ^ w := by
  have hp := Nat.two_pow_pos w
  have e1 : (a + 2 ^ w * (b + 2 ^ w * r)) / 2 ^ w = b + 2 ^ w * r := by rw [Nat.add_mul_div_left _ _ hp, Nat.div_eq_of_lt ha, Nat.zero_add]
  have e2 : (b + 2 ^ w * r) / 2 ^ w = r := by rw [Nat.add_mul_div_left _ _ hp, Nat.div_eq_of_lt hb, Nat.zero_add]
  refine ⟨by rw [Nat.add_mul_mod_self_left, Nat.mod_eq_of_lt ha], e1, ?_, by rw [Nat.add_mul_mod_self_left, Nat.mod_eq_of_lt hb], e2, by rw [show 2 * w = w + w by omega, Nat.pow_add, ← Nat.div_div_eq_div_mul, e2]⟩
  rw [show 2 * w = w + w by omega, Nat.pow_add, ← Nat.div_div_eq_div_mul, e1, e2]
/-- One step: fields of w bits to fields of 2 w. -/
theorem step_sum {w : Nat} : ∀ (n x : Nat), evF w n (pcF w (2 * n) x / 2 ^ w) + evF w n (pcF w (2 * n) x) = pcF (2 * w) n x
  | 0, x => by simp [evF, pcF]
  | n + 1, x => by
    have ih := step_sum (w := w) n (x / 2 ^ (2 * w))
    have l1 := Nat.lt_of_le_of_lt (popAux_le w x) (lt_pow w)
    have l2 := Nat.lt_of_le_of_lt (popAux_le w (x / 2 ^ w)) (lt_pow w)
    rw [show 2 * (n + 1) = 2 * n + 2 by omega, pc_two]
    obtain ⟨f1, f2, f3, f4, f5, f6⟩ := two_fields (w := w) (r := pcF w (2 * n) (x / 2 ^ (2 * w))) l1 l2
    simp only [evF]
    rw [f1, f2, f3, f4]
    rw [f6]
    simp only [pcF]
    rw [show 2 * w = w + w by omega, popAux_add w w x, show w + w = 2 * w by omega, ← ih, Nat.mul_add]
    omega
theorem pc_low {w : Nat} : ∀ (n x : Nat), pcF w n x % 2 ^ w ≤ w
  | 0, x => by simp [pcF]
  | n + 1, x => by
    simp only [pcF]
    rw [Nat.add_mul_mod_self_left]
    exact Nat.le_trans (Nat.mod_le _ _) (popAux_le w x)
/-- One step where the fields have room for the sum. -/
theorem step_room {w : Nat} (hw : 2 * w < 2 ^ w) : ∀ (n x : Nat), evF w n (pcF w (2 * n) x / 2 ^ w + pcF w (2 * n) x) = pcF (2 * w) n x
  | 0, x => by simp [evF, pcF]
  | n + 1, x => by
    have ih := step_room hw n (x / 2 ^ (2 * w))
    have a1 := popAux_le w x
    have a2 := popAux_le w (x / 2 ^ w)
    have hp := Nat.two_pow_pos w
    have lo := pc_low (w := w) (2 * n) (x / 2 ^ (2 * w))
    rw [show 2 * (n + 1) = 2 * n + 2 by omega, pc_two]
    obtain ⟨f1, f2, f3, f4, f5, _⟩ := two_fields (w := w) (a := Lib.popAux w x) (b := Lib.popAux w (x / 2 ^ w)) (r := pcF w (2 * n) (x / 2 ^ (2 * w))) (by omega) (by omega)
    simp only [evF]
    rw [f2]
    have g1 : Lib.popAux (2 * w) x = Lib.popAux w x + Lib.popAux w (x / 2 ^ w) := by rw [show 2 * w = w + w by omega, popAux_add w w x]
    simp only [pcF]
    rw [g1, ← ih]
    generalize pcF w (2 * n) (x / 2 ^ (2 * w)) = r at *
    generalize Lib.popAux w x = a at *
    generalize Lib.popAux w (x / 2 ^ w) = b at *
    rw [show b + 2 ^ w * r + (a + 2 ^ w * (b + 2 ^ w * r)) = (a + b) + 2 ^ w * ((b + r) + 2 ^ w * r) by rw [Nat.mul_add, Nat.mul_add, Nat.mul_add]; omega]
    have e2 : ((a + b) + 2 ^ w * ((b + r) + 2 ^ w * r)) / 2 ^ (2 * w) = r / 2 ^ w + r := by
      rw [show 2 * w = w + w by omega, Nat.pow_add, ← Nat.div_div_eq_div_mul, Nat.add_mul_div_left _ _ hp, Nat.div_eq_of_lt (by omega : a + b < 2 ^ w), Nat.zero_add, Nat.add_mul_div_left _ _ hp]
      congr 1
      have h := Nat.mod_add_div r (2 ^ w)
      have h2 : b + r = (b + r % 2 ^ w) + 2 ^ w * (r / 2 ^ w) := by omega
      rw [h2, Nat.add_mul_div_left _ _ hp, Nat.div_eq_of_lt (by omega), Nat.zero_add]
    rw [e2, Nat.add_mul_mod_self_left, Nat.mod_eq_of_lt (by omega : a + b < 2 ^ w)]
theorem pc_one : ∀ (n x : Nat), x < 2 ^ n → pcF 1 n x = x
  | 0, x, h => by simp at h; subst h; rfl
  | n + 1, x, h => by
    simp only [pcF]
    rw [show (2 : Nat) ^ 1 = 2 by decide, pc_one n (x / 2) (by rw [Nat.pow_succ] at h; omega)]
    simp [Lib.popAux]
    omega
/-- Eight bytes summed. -/
theorem pc_sum {x y : Nat} (hy : y = pcF 8 8 x) : ∃ a b c : Nat, y + y / 256 = a ∧ a + a / 65536 = b ∧ b + b / 4294967296 = c ∧ a < 18446744073709551616 ∧ b < 18446744073709551616 ∧ c < 18446744073709551616 ∧ c % 128 = Lib.popAux 64 x := by
  refine ⟨_, _, _, rfl, rfl, rfl, ?_⟩
  have p := fun v => popAux_le 8 v
  have A : ∀ b v, Lib.popAux (8 + b) v = Lib.popAux 8 v + Lib.popAux b (v / 256) := fun b v => popAux_add 8 b v
  have e : Lib.popAux 64 x = Lib.popAux 8 x + (Lib.popAux 8 (x / 256) + (Lib.popAux 8 (x / 256 / 256) + (Lib.popAux 8 (x / 256 / 256 / 256) + (Lib.popAux 8 (x / 256 / 256 / 256 / 256) + (Lib.popAux 8 (x / 256 / 256 / 256 / 256 / 256) + (Lib.popAux 8 (x / 256 / 256 / 256 / 256 / 256 / 256) + (Lib.popAux 8 (x / 256 / 256 / 256 / 256 / 256 / 256 / 256)))))))) := by
    have e0 : Lib.popAux (8 + (8 + (8 + (8 + (8 + (8 + (8 + 8))))))) x = Lib.popAux 8 x + (Lib.popAux 8 (x / 256) + (Lib.popAux 8 (x / 256 / 256) + (Lib.popAux 8 (x / 256 / 256 / 256) + (Lib.popAux 8 (x / 256 / 256 / 256 / 256) + (Lib.popAux 8 (x / 256 / 256 / 256 / 256 / 256) + (Lib.popAux 8 (x / 256 / 256 / 256 / 256 / 256 / 256) + (Lib.popAux 8 (x / 256 / 256 / 256 / 256 / 256 / 256 / 256)))))))) := by rw [A, A, A, A, A, A, A]
    exact e0
  have B : ∀ n v, pcF 8 (n + 1) v = Lib.popAux 8 v + 256 * pcF 8 n (v / 256) := fun n v => rfl
  have k0 : pcF 8 8 (x) = Lib.popAux 8 (x) + 256 * pcF 8 7 (x / 256) := B 7 _
  have k1 : pcF 8 7 (x / 256) = Lib.popAux 8 (x / 256) + 256 * pcF 8 6 (x / 256 / 256) := B 6 _
  have k2 : pcF 8 6 (x / 256 / 256) = Lib.popAux 8 (x / 256 / 256) + 256 * pcF 8 5 (x / 256 / 256 / 256) := B 5 _
  have k3 : pcF 8 5 (x / 256 / 256 / 256) = Lib.popAux 8 (x / 256 / 256 / 256) + 256 * pcF 8 4 (x / 256 / 256 / 256 / 256) := B 4 _
  have k4 : pcF 8 4 (x / 256 / 256 / 256 / 256) = Lib.popAux 8 (x / 256 / 256 / 256 / 256) + 256 * pcF 8 3 (x / 256 / 256 / 256 / 256 / 256) := B 3 _
  have k5 : pcF 8 3 (x / 256 / 256 / 256 / 256 / 256) = Lib.popAux 8 (x / 256 / 256 / 256 / 256 / 256) + 256 * pcF 8 2 (x / 256 / 256 / 256 / 256 / 256 / 256) := B 2 _
  have k6 : pcF 8 2 (x / 256 / 256 / 256 / 256 / 256 / 256) = Lib.popAux 8 (x / 256 / 256 / 256 / 256 / 256 / 256) + 256 * pcF 8 1 (x / 256 / 256 / 256 / 256 / 256 / 256 / 256) := B 1 _
  have k7 : pcF 8 1 (x / 256 / 256 / 256 / 256 / 256 / 256 / 256) = Lib.popAux 8 (x / 256 / 256 / 256 / 256 / 256 / 256 / 256) + 256 * pcF 8 0 (x / 256 / 256 / 256 / 256 / 256 / 256 / 256 / 256) := B 0 _
  have k8 : pcF 8 0 (x / 256 / 256 / 256 / 256 / 256 / 256 / 256 / 256) = 0 := rfl
  rw [k0, k1, k2, k3, k4, k5, k6, k7, k8] at hy
  clear A B k0 k1 k2 k3 k4 k5 k6 k7 k8
  rw [e]
  have p0 := p x
  have p1 := p (x / 256)
  have p2 := p (x / 256 / 256)
  have p3 := p (x / 256 / 256 / 256)
  have p4 := p (x / 256 / 256 / 256 / 256)
  have p5 := p (x / 256 / 256 / 256 / 256 / 256)
  have p6 := p (x / 256 / 256 / 256 / 256 / 256 / 256)
  have p7 := p (x / 256 / 256 / 256 / 256 / 256 / 256 / 256)
  generalize Lib.popAux 8 x = c0 at *
  generalize Lib.popAux 8 (x / 256) = c1 at *
  generalize Lib.popAux 8 (x / 256 / 256) = c2 at *
  generalize Lib.popAux 8 (x / 256 / 256 / 256) = c3 at *
  generalize Lib.popAux 8 (x / 256 / 256 / 256 / 256) = c4 at *
  generalize Lib.popAux 8 (x / 256 / 256 / 256 / 256 / 256) = c5 at *
  generalize Lib.popAux 8 (x / 256 / 256 / 256 / 256 / 256 / 256) = c6 at *
  generalize Lib.popAux 8 (x / 256 / 256 / 256 / 256 / 256 / 256 / 256) = c7 at *
  clear e p
  have D : ∀ m r q : Nat, r < m → (r + m * q) / m = q := fun m r q h => by rw [Nat.add_mul_div_left _ _ (by omega), Nat.div_eq_of_lt h, Nat.zero_add]
  obtain ⟨q1, hq1⟩ : ∃ q1, q1 = c1 + 256 * (c2 + 256 * (c3 + 256 * (c4 + 256 * (c5 + 256 * (c6 + 256 * c7))))) := ⟨_, rfl⟩
  have hy1 : y = c0 + 256 * q1 := by rw [hy, hq1]; omega
  clear hy
  have d1 : y / 256 = q1 := by rw [hy1]; exact D _ _ _ (by omega)
  rw [d1]
  clear d1
  obtain ⟨s2, hs2⟩ : ∃ s, s = (c2 + c3) + 256 * (c3 + c4) + 65536 * (c4 + c5) + 16777216 * (c5 + c6) + 4294967296 * (c6 + c7) + 1099511627776 * c7 := ⟨_, rfl⟩
  have h2 : y + q1 = ((c0 + c1) + 256 * (c1 + c2)) + 65536 * s2 := by rw [hy1, hs2, hq1]; omega
  have d2 : (y + q1) / 65536 = s2 := by rw [h2]; exact D _ _ _ (by omega)
  rw [d2]
  clear d2
  obtain ⟨s3, hs3⟩ : ∃ s, s = (c4 + c5 + c6 + c7) + 256 * (c5 + c6 + c7) + 65536 * (c6 + c7) + 16777216 * c7 := ⟨_, rfl⟩
  have h3 : y + q1 + s2 = ((c0 + c1 + c2 + c3) + 256 * (c1 + c2 + c3 + c4) + 65536 * (c2 + c3 + c4 + c5) + 16777216 * (c3 + c4 + c5 + c6)) + 4294967296 * s3 := by rw [h2, hs3, hs2]; omega
  have d3 : (y + q1 + s2) / 4294967296 = s3 := by rw [h3]; exact D _ _ _ (by omega)
  rw [d3]
  clear d3 D
  have b1 : s3 ≤ 600000000 := by clear h2 h3 hy1; omega
  have b2 : s2 ≤ 20000000000000 := by clear h2 h3 hy1; omega
  have h4 : y + q1 + s2 + s3 = (c0 + c1 + c2 + c3 + c4 + c5 + c6 + c7) + 128 * (2 * ((c1 + c2 + c3 + c4 + c5 + c6 + c7) + 256 * (c2 + c3 + c4 + c5 + c6 + c7) + 65536 * (c3 + c4 + c5 + c6 + c7) + 16777216 * s3)) := by
    rw [h3, hs3]; clear h2 h3 hs3 hs2 hy1 hq1; omega
  have h5 : (y + q1 + s2 + s3) % 128 = c0 + c1 + c2 + c3 + c4 + c5 + c6 + c7 := by rw [h4, Nat.add_mul_mod_self_left]; clear h2 h3 hs3 hs2 hy1 hq1 h4; exact Nat.mod_eq_of_lt (by omega)
  have b0 : y + q1 < 1000000000000000000 := by rw [h2]; clear h2 h3 hs3 hy1 hq1 h4 h5; omega
  refine ⟨by clear h2 h3 hs3 hs2 hy1 hq1 h4 h5; omega, by clear h2 h3 hs3 hs2 hy1 hq1 h4 h5; omega, by clear h2 h3 hs3 hs2 hy1 hq1 h4 h5; omega, by rw [h5]; clear h2 h3 hs3 hs2 hy1 hq1 h4 h5; omega⟩
/-- The whole: how many bits are set, as package math/bits counts them. -/
theorem ones64_num {x : Nat} (hx : x < 18446744073709551616) : ∃ a b c d e f g y : Nat,
    ((x / 2) &&& 6148914691236517205) = a ∧ (x &&& 6148914691236517205) = b ∧ a + b = c ∧ c < 18446744073709551616 ∧
    ((c / 4) &&& 3689348814741910323) = d ∧ (c &&& 3689348814741910323) = e ∧ d + e = f ∧ f < 18446744073709551616 ∧
    f / 16 + f = g ∧ g < 18446744073709551616 ∧ (g &&& 1085102592571150095) = y ∧ y = pcF 8 8 x := by
  have k0 : mkF 1 32 = 6148914691236517205 := by decide
  have k1 : mkF 2 16 = 3689348814741910323 := by decide
  have k2 : mkF 4 8 = 1085102592571150095 := by decide
  have s0 := step_sum (w := 1) 32 x
  have s1 := step_sum (w := 2) 16 x
  have s2 := step_room (w := 4) (by decide) 8 x
  rw [pc_one _ _ hx, ← ev_mask, ← ev_mask, k0] at s0
  rw [← ev_mask, ← ev_mask, k1] at s1
  rw [← ev_mask, k2] at s2
  have b : ∀ (w n x : Nat), pcF w n x < 2 ^ (w * n) := by
    intro w n
    induction n with
    | zero => intro x; simp [pcF]
    | succ n ih =>
      intro x
      have h1 := ih (x / 2 ^ w)
      have h2 := Nat.lt_of_le_of_lt (popAux_le w x) (lt_pow w)
      simp only [pcF]
      rw [show w * (n + 1) = w + w * n by rw [Nat.mul_add]; omega, Nat.pow_add]
      have h3 : 2 ^ w * (pcF w n (x / 2 ^ w) + 1) ≤ 2 ^ w * 2 ^ (w * n) := Nat.mul_le_mul_left _ h1
      rw [Nat.mul_add] at h3
      omega
  have b1 := b 2 32 x
  have b2 := b 4 16 x
  refine ⟨_, _, pcF 2 32 x, _, _, pcF 4 16 x, _, _, rfl, rfl, s0, b1, rfl, rfl, s1, b2, rfl, ?_, rfl, ?_⟩
  · have h4 : pcF 4 16 x < 18446744073709551616 / 2 := by
      -- the highest field holds at most 4
      have h5 : ∀ (n x : Nat), pcF 4 (n + 1) x < 2 ^ (4 * n) * 5 := by
        intro n
        induction n with
        | zero => intro x; have := popAux_le 4 x; simp [pcF]; omega
        | succ n ih =>
          intro x
          have h1 := ih (x / 2 ^ 4)
          have h2 := popAux_le 4 x
          have e : pcF 4 (n + 1 + 1) x = Lib.popAux 4 x + 2 ^ 4 * pcF 4 (n + 1) (x / 2 ^ 4) := rfl
          rw [e, show 4 * (n + 1) = 4 + 4 * n by omega, Nat.pow_add]
          generalize 2 ^ (4 * n) = m at *
          omega
      have := h5 15 x
      simp at this ⊢
      omega
    omega
  · rw [show (2 : Nat) * 4 = 8 by decide] at s2
    exact s2
end Go.Proofs.YtjgdfajooccalaaDoor
