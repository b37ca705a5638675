/- Bits as lists: the numbers that they make, sums with a carry, products, quotients. No walk here. -/
import Derived.ProofKit
import Derived.Test.YtjgdfajooccalaaRows
import Derived.WalkKit
import Derived.Laws.OwnMore
import Derived.Laws.Rows
import Derived.Deep.Draws
import Derived.Laws.BytesArg
import Derived.Laws.Strings
import Derived.Laws.BytesString
import Derived.Lib.Hide
import Derived.LoopTactic
import Derived.OwnWalk
import Derived.Deep.AppendLies
import Derived.KernelRfl
namespace Go.Proofs.Ytjgdfajooccalaa
set_option linter.unusedVariables false

/-- The number that bits make, the lowest first. -/
def numL : List Bool → Nat
  | [] => 0
  | b :: r => b.toNat + 2 * numL r
/-- The n lowest bits of a number. -/
def bitsL : Nat → Nat → List Bool
  | 0, _ => []
  | n + 1, v => (v % 2 == 1) :: bitsL n (v / 2)
theorem bitsL_len : ∀ (n v : Nat), (bitsL n v).length = n
  | 0, _ => rfl
  | n + 1, v => by simp [bitsL, bitsL_len n]
theorem numL_lt : ∀ l : List Bool, numL l < 2 ^ l.length
  | [] => by simp [numL]
  | b :: r => by
    have h := numL_lt r
    simp only [numL, List.length_cons, Nat.pow_succ]
    cases b <;> simp <;> omega
theorem num_bits : ∀ (n v : Nat), numL (bitsL n v) = v % 2 ^ n
  | 0, v => by simp [bitsL, numL, Nat.mod_one]
  | n + 1, v => by
    simp only [bitsL, numL, num_bits n]
    have h : v % 2 ^ (n + 1) = v % 2 + 2 * (v / 2 % 2 ^ n) := by rw [Nat.pow_succ, Nat.mul_comm, Nat.mod_mul]
    rw [h]
    rcases Nat.mod_two_eq_zero_or_one v with e | e <;> simp [e]
theorem bits_num : ∀ l : List Bool, bitsL l.length (numL l) = l
  | [] => rfl
  | b :: r => by
    simp only [List.length_cons, bitsL, numL]
    have e1 : (b.toNat + 2 * numL r) % 2 = b.toNat := by cases b <;> simp <;> omega
    have e2 : (b.toNat + 2 * numL r) / 2 = numL r := by cases b <;> simp <;> omega
    rw [e1, e2, bits_num r]
    cases b <;> rfl
/-- Bit i of a list of bits. -/
theorem numL_get : ∀ (l : List Bool) (i : Nat), i < l.length → (numL l / 2 ^ i % 2 == 1) = l.getD i false
  | [], i, h => by simp at h
  | b :: r, 0, _ => by
    simp only [numL, Nat.pow_zero, Nat.div_one, List.getD_cons_zero]
    cases b <;> simp <;> omega
  | b :: r, i + 1, h => by
    have ih := numL_get r i (by simpa using h)
    have e2 : (b.toNat + 2 * numL r) / 2 = numL r := by cases b <;> simp <;> omega
    simp only [numL, List.getD_cons_succ]
    rw [show 2 ^ (i + 1) = 2 * 2 ^ i by rw [Nat.pow_succ, Nat.mul_comm], ← Nat.div_div_eq_div_mul, e2, ih]
theorem bitsL_get : ∀ (n v i : Nat), i < n → (bitsL n v)[i]? = some (v / 2 ^ i % 2 == 1)
  | 0, _, i, h => by omega
  | n + 1, v, 0, _ => by simp [bitsL]
  | n + 1, v, i + 1, h => by
    rw [bitsL, List.getElem?_cons_succ, bitsL_get n (v / 2) i (by omega), Nat.div_div_eq_div_mul, Nat.pow_succ, Nat.mul_comm]
theorem numL_app (a b : List Bool) : numL (a ++ b) = numL a + 2 ^ a.length * numL b := by
  induction a with
  | nil => simp [numL]
  | cons x r ih => simp only [List.cons_append, numL, ih, List.length_cons, Nat.pow_succ]; rw [Nat.mul_add, Nat.mul_comm (2 ^ r.length) 2, Nat.mul_assoc]; omega
theorem numL_rep (n : Nat) : numL (List.replicate n false) = 0 := by
  induction n with
  | zero => rfl
  | succ n ih => simp [List.replicate_succ, numL, ih]
theorem numL_repT (n : Nat) : numL (List.replicate n true) = 2 ^ n - 1 := by
  induction n with
  | zero => rfl
  | succ n ih =>
    have := Nat.two_pow_pos n
    simp only [List.replicate_succ, numL, ih, Nat.pow_succ, Bool.toNat_true]
    omega
/-- A sum with a carry, bit by bit. -/
def addL : List Bool → List Bool → Bool → List Bool
  | a :: r, b :: s, c => ((a.toNat + b.toNat + c.toNat) % 2 == 1) :: addL r s (decide (1 < a.toNat + b.toNat + c.toNat))
  | _, _, _ => []
theorem addL_len : ∀ (a b : List Bool) (c : Bool), a.length = b.length → (addL a b c).length = a.length
  | [], [], _, _ => rfl
  | x :: r, y :: s, c, h => by simp [addL, addL_len r s _ (by simpa using h)]
theorem numL_add : ∀ (a b : List Bool) (c : Bool), a.length = b.length → numL (addL a b c) = (numL a + numL b + c.toNat) % 2 ^ a.length
  | [], [], c, _ => by simp [addL, numL, Nat.mod_one]
  | x :: r, y :: s, c, h => by
    have ih := numL_add r s (decide (1 < x.toNat + y.toNat + c.toNat)) (by simpa using h)
    simp only [addL, numL, ih, List.length_cons]
    rw [Nat.pow_succ, Nat.mul_comm (2 ^ r.length) 2, Nat.mod_mul]
    have e : (x.toNat + 2 * numL r + (y.toNat + 2 * numL s) + c.toNat) / 2 = numL r + numL s + (decide (1 < x.toNat + y.toNat + c.toNat)).toNat := by
      cases x <;> cases y <;> cases c <;> simp <;> omega
    have e1 : (x.toNat + 2 * numL r + (y.toNat + 2 * numL s) + c.toNat) % 2 = ((x.toNat + y.toNat + c.toNat) % 2 == 1).toNat := by
      cases x <;> cases y <;> cases c <;> simp <;> omega
    rw [e, e1]
def notL (a : List Bool) : List Bool := a.map (!·)
theorem notL_len (a : List Bool) : (notL a).length = a.length := by simp [notL]
theorem numL_not : ∀ a : List Bool, numL (notL a) + numL a + 1 = 2 ^ a.length
  | [] => rfl
  | x :: r => by
    have ih := numL_not r
    have e : notL (x :: r) = (!x) :: notL r := rfl
    rw [e]
    simp only [numL, List.length_cons, Nat.pow_succ]
    cases x <;> simp <;> omega
/-- Is one below another one? From the top down. -/
def lessL (a b : List Bool) : Bool := decide (numL a < numL b)
def turnL (a : List Bool) : List Bool := addL (notL a) (List.replicate a.length false) true
theorem turnL_len (a : List Bool) : (turnL a).length = a.length := by unfold turnL; rw [addL_len _ _ _ (by simp [notL]), notL_len]
theorem numL_turn (a : List Bool) : numL (turnL a) = (2 ^ a.length - numL a) % 2 ^ a.length := by
  unfold turnL
  rw [numL_add _ _ _ (by simp [notL]), numL_rep, notL_len]
  have := numL_not a
  have e : numL (notL a) + 0 + true.toNat = 2 ^ a.length - numL a := by simp; omega
  rw [e]
/-- So many places up (k - by in range), others as told. -/
def shiftL (n : Nat) (a : List Bool) (by_ : Int) (fill : Bool) : List Bool := (List.range n).map fun (i : Nat) => if 0 ≤ (i : Int) - by_ ∧ (i : Int) - by_ < n then a.getD ((i : Int) - by_).toNat false else fill
theorem shiftL_len (n : Nat) (a : List Bool) (k : Int) (f : Bool) : (shiftL n a k f).length = n := by simp [shiftL]
def rotL (n : Nat) (a : List Bool) (by_ : Int) : List Bool := (List.range n).map fun (i : Nat) => a.getD (((i : Int) - by_) % n).toNat false
theorem rotL_len (n : Nat) (a : List Bool) (k : Int) : (rotL n a k).length = n := by simp [rotL]
theorem numL_ext {n v : Nat} {l : List Bool} (hl : l.length = n) (h : ∀ i, i < n → l.getD i false = (v / 2 ^ i % 2 == 1)) : numL l = v % 2 ^ n := by
  rw [← num_bits]
  congr 1
  apply List.ext_getElem?
  intro i
  by_cases hi : i < n
  · rw [bitsL_get n v i hi, ← h i hi, List.getD_eq_getElem?_getD, List.getElem?_eq_getElem (by omega), Option.getD_some]
  · rw [List.getElem?_eq_none (by omega), List.getElem?_eq_none (by rw [bitsL_len]; omega)]
theorem shiftL_get {n i : Nat} {a : List Bool} {k : Int} {f : Bool} (hi : i < n) : (shiftL n a k f).getD i false = if 0 ≤ (i : Int) - k ∧ (i : Int) - k < n then a.getD ((i : Int) - k).toNat false else f := by
  unfold shiftL
  rw [List.getD_eq_getElem?_getD, List.getElem?_map, List.getElem?_range hi]
  rfl
theorem rotL_get {n i : Nat} {a : List Bool} {k : Int} (hi : i < n) : (rotL n a k).getD i false = a.getD (((i : Int) - k) % n).toNat false := by
  unfold rotL
  rw [List.getD_eq_getElem?_getD, List.getElem?_map, List.getElem?_range hi]
  rfl
/-- Up by k: times 2^k. -/
theorem num_up {n : Nat} {a : List Bool} (ha : a.length = n) (k : Nat) : numL (shiftL n a k false) = numL a * 2 ^ k % 2 ^ n := by
  refine numL_ext (shiftL_len _ _ _ _) fun i hi => ?_
  rw [shiftL_get hi]
  by_cases h : k ≤ i
  · rw [if_pos (by omega), ← numL_get a _ (by omega)]
    have e : ((i : Int) - k).toNat = i - k := by omega
    rw [e]
    have e2 : numL a * 2 ^ k / 2 ^ i = numL a / 2 ^ (i - k) := by
      rw [show 2 ^ i = 2 ^ k * 2 ^ (i - k) by rw [← Nat.pow_add]; congr 1; omega, ← Nat.div_div_eq_div_mul, Nat.mul_div_cancel _ (Nat.two_pow_pos k)]
    rw [e2]
  · rw [if_neg (by omega)]
    have e2 : numL a * 2 ^ k / 2 ^ i = numL a * 2 ^ (k - i - 1) * 2 := by
      rw [show 2 ^ k = 2 ^ i * (2 ^ (k - i - 1) * 2) by rw [← Nat.pow_succ, ← Nat.pow_add]; congr 1; omega, Nat.mul_left_comm, Nat.mul_div_cancel_left _ (Nat.two_pow_pos i), Nat.mul_assoc]
    rw [e2]
    simp
/-- Down by k: the quotient by 2^k, with zeros. -/
theorem num_down {n : Nat} {a : List Bool} (ha : a.length = n) (k : Nat) : numL (shiftL n a (-(k : Int)) false) = numL a / 2 ^ k := by
  have hlt := numL_lt a
  rw [ha] at hlt
  have hq : numL a / 2 ^ k < 2 ^ n := Nat.lt_of_le_of_lt (Nat.div_le_self _ _) hlt
  rw [← Nat.mod_eq_of_lt hq]
  refine numL_ext (shiftL_len _ _ _ _) fun i hi => ?_
  rw [shiftL_get hi, Nat.div_div_eq_div_mul, ← Nat.pow_add]
  by_cases h : i + k < n
  · rw [if_pos (by omega), ← numL_get a _ (by omega)]
    have e : ((i : Int) - -(k : Int)).toNat = k + i := by omega
    rw [e]
  · rw [if_neg (by omega)]
    have e : numL a / 2 ^ (k + i) = 0 := Nat.div_eq_of_lt (Nat.lt_of_lt_of_le hlt (Nat.pow_le_pow_right (by omega) (by omega)))
    rw [e]
    simp
/-- Down by k, with ones. -/
theorem num_downT {n : Nat} {a : List Bool} (ha : a.length = n) (k : Nat) (hk : k ≤ n) : numL (shiftL n a (-(k : Int)) true) = numL a / 2 ^ k + (2 ^ n - 2 ^ (n - k)) := by
  have e : shiftL n a (-(k : Int)) true = (shiftL n a (-(k : Int)) false).take (n - k) ++ List.replicate k true := by
    apply List.ext_getElem?
    intro i
    by_cases hi : i < n
    · have h1 : (shiftL n a (-(k : Int)) true)[i]? = some ((shiftL n a (-(k : Int)) true).getD i false) := by rw [List.getD_eq_getElem?_getD, List.getElem?_eq_getElem (by rw [shiftL_len]; exact hi), Option.getD_some]
      rw [h1, shiftL_get hi]
      by_cases h : i < n - k
      · rw [if_pos (by omega), List.getElem?_append_left (by rw [List.length_take, shiftL_len]; omega), List.getElem?_take, if_pos h]
        have h2 : (shiftL n a (-(k : Int)) false)[i]? = some ((shiftL n a (-(k : Int)) false).getD i false) := by rw [List.getD_eq_getElem?_getD, List.getElem?_eq_getElem (by rw [shiftL_len]; exact hi), Option.getD_some]
        rw [h2, shiftL_get hi, if_pos (by omega)]
      · rw [if_neg (by omega), List.getElem?_append_right (by rw [List.length_take, shiftL_len]; omega), List.getElem?_replicate, if_pos (by rw [List.length_take, shiftL_len]; omega)]
    · rw [List.getElem?_eq_none (by rw [shiftL_len]; omega), List.getElem?_eq_none (by rw [List.length_append, List.length_take, shiftL_len, List.length_replicate]; omega)]
  have hs : shiftL n a (-(k : Int)) false = (shiftL n a (-(k : Int)) false).take (n - k) ++ List.replicate k false := by
    apply List.ext_getElem?
    intro i
    by_cases h : i < n - k
    · rw [List.getElem?_append_left (by rw [List.length_take, shiftL_len]; omega), List.getElem?_take, if_pos h]
    · by_cases hi : i < n
      · have h1 : (shiftL n a (-(k : Int)) false)[i]? = some ((shiftL n a (-(k : Int)) false).getD i false) := by rw [List.getD_eq_getElem?_getD, List.getElem?_eq_getElem (by rw [shiftL_len]; exact hi), Option.getD_some]
        rw [h1, shiftL_get hi, if_neg (by omega), List.getElem?_append_right (by rw [List.length_take, shiftL_len]; omega), List.getElem?_replicate, if_pos (by rw [List.length_take, shiftL_len]; omega)]
      · rw [List.getElem?_eq_none (by rw [shiftL_len]; omega), List.getElem?_eq_none (by rw [List.length_append, List.length_take, shiftL_len, List.length_replicate]; omega)]
  have h1 := congrArg numL hs
  rw [num_down ha, numL_app, numL_rep, Nat.mul_zero, Nat.add_zero] at h1
  rw [e, numL_app, ← h1, numL_repT, List.length_take, shiftL_len, Nat.min_eq_left (by omega), Nat.mul_sub, ← Nat.pow_add, Nat.mul_one, show n - k + k = n by omega]
/-- Turned round by k places up. -/
theorem num_rot {n : Nat} {a : List Bool} (ha : a.length = n) (hn : 0 < n) (k : Nat) (hk : k < n) : numL (rotL n a k) = numL a * 2 ^ k % 2 ^ n + numL a / 2 ^ (n - k) := by
  have e : rotL n a k = a.drop (n - k) ++ a.take (n - k) := by
    apply List.ext_getElem?
    intro i
    by_cases hi : i < n
    · have h1 : (rotL n a k)[i]? = some ((rotL n a k).getD i false) := by rw [List.getD_eq_getElem?_getD, List.getElem?_eq_getElem (by rw [rotL_len]; exact hi), Option.getD_some]
      rw [h1, rotL_get hi]
      by_cases h : k ≤ i
      · have e1 : (((i : Int) - k) % n).toNat = i - k := by rw [Int.emod_eq_of_lt (by omega) (by omega)]; omega
        rw [e1, List.getElem?_append_right (by rw [List.length_drop]; omega), List.length_drop, List.getElem?_take, if_pos (by omega), List.getD_eq_getElem?_getD, List.getElem?_eq_getElem (by omega : i - k < a.length), Option.getD_some,
          List.getElem?_eq_getElem (by omega : i - (a.length - (n - k)) < a.length)]
        congr 1
        congr 1
        omega
      · have e1 : (((i : Int) - k) % n).toNat = n - k + i := by
          rw [← Int.add_emod_right, Int.emod_eq_of_lt (by omega) (by omega)]; omega
        rw [e1, List.getElem?_append_left (by rw [List.length_drop]; omega), List.getElem?_drop, List.getD_eq_getElem?_getD, List.getElem?_eq_getElem (by omega : n - k + i < a.length), Option.getD_some]
    · rw [List.getElem?_eq_none (by rw [rotL_len]; omega), List.getElem?_eq_none (by rw [List.length_append, List.length_drop, List.length_take]; omega)]
  have hs : numL a = numL (a.take (n - k)) + 2 ^ (n - k) * numL (a.drop (n - k)) := by
    conv => lhs; rw [← List.take_append_drop (n - k) a]
    rw [numL_app, List.length_take, Nat.min_eq_left (by omega)]
  have h1 := numL_lt (a.take (n - k))
  have h2 := numL_lt (a.drop (n - k))
  rw [List.length_take, Nat.min_eq_left (by omega)] at h1
  rw [List.length_drop, ha, show n - (n - k) = k by omega] at h2
  have q1 : numL a / 2 ^ (n - k) = numL (a.drop (n - k)) := by rw [hs, Nat.add_mul_div_left _ _ (Nat.two_pow_pos _), Nat.div_eq_of_lt h1, Nat.zero_add]
  have q2 : numL a * 2 ^ k % 2 ^ n = numL (a.take (n - k)) * 2 ^ k := by
    have e2 : 2 ^ n = 2 ^ (n - k) * 2 ^ k := by rw [← Nat.pow_add]; congr 1; omega
    rw [e2, Nat.mul_mod_mul_right, hs, Nat.add_mul_mod_self_left, Nat.mod_eq_of_lt h1]
  rw [e, numL_app, q1, q2, List.length_drop, ha, show n - (n - k) = k by omega]
  rw [Nat.mul_comm (2 ^ k)]
  omega
theorem rot_neg {n : Nat} {a : List Bool} (hn : 0 < n) (k : Nat) (hk : k < n) : rotL n a (-(k : Int)) = rotL n a (((n - k) % n : Nat) : Int) := by
  unfold rotL
  apply List.map_congr_left
  intro i _
  congr 2
  by_cases h0 : k = 0
  · subst h0
    rw [Nat.sub_zero, Nat.mod_self]
    rfl
  · rw [Nat.mod_eq_of_lt (by omega : n - k < n), show (i : Int) - -(k : Int) = ((i : Int) - ((n - k : Nat) : Int)) + n by omega, Int.add_emod_right]
end Go.Proofs.Ytjgdfajooccalaa

/- Small laws on memory: blocks known whole, worlds that grow, for every program. -/
namespace Go.Proofs.Ytjgdfajooccalaa
set_option linter.unusedVariables false
open Go.RowKit

/-- Block g is the cells cs of element type t, all of them writable. -/
def Whole (w : World) (g : Nat) (t : TypeId) (cs : Array Value) : Prop := w.heap[g]? = some (.cells cs t (0, 0))

theorem Whole.lt {w : World} {g : Nat} {t : TypeId} {cs : Array Value} (h : Whole w g t cs) : g < w.heap.size := by
  have h' : w.heap[g]? = some (.cells cs t (0, 0)) := h
  exact (Array.getElem?_eq_some_iff.1 h').1
theorem Whole.cell {w : World} {g : Nat} {t : TypeId} {cs : Array Value} (h : Whole w g t cs) (i : Nat) : w.cell? ⟨g, i, none⟩ = cs[i]? := cell_of_row w g i cs t (0, 0) h
theorem Whole.frozen {w : World} {g : Nat} {t : TypeId} {cs : Array Value} (h : Whole w g t cs) (i : Nat) : w.frozen? ⟨g, i, none⟩ = false := frozen_of_row w g i cs t h
theorem Whole.made (w : World) (t : TypeId) (cs : Array Value) : Whole (w.alloc (.cells cs t)) w.heap.size t cs := heap_alloc_new w _
theorem Whole.drew {w : World} {g : Nat} {t : TypeId} {cs : Array Value} (h : Whole w g t cs) : Whole w.drew g t cs := h
theorem Whole.alloc {w : World} {g : Nat} {t : TypeId} {cs : Array Value} (h : Whole w g t cs) (o : Obj) : Whole (w.alloc o) g t cs := (Below.heap_alloc w o g h.lt).trans h
theorem Whole.put {w : World} {g : Nat} {t : TypeId} {cs : Array Value} (h : Whole w g t cs) (i : Nat) (u : Value) : Whole (w.setCell ⟨g, i, none⟩ u) g t (cs.setIfInBounds i u) := by
  have h' : w.heap[g]? = some (.cells cs t (0, 0)) := h
  show (w.setCell ⟨g, i, none⟩ u).heap[g]? = _
  simp [World.setCell, Array.getElem?_modify, h']
theorem Whole.grown {w w' : World} {g : Nat} {t : TypeId} {cs : Array Value} {row : Option Nat} (h : Whole w g t cs) (hg : w.grownBy w' row) (hr : some g ≠ row) : Whole w' g t cs := (hg.block g h.lt hr).trans h
theorem Whole.below {w w' : World} {g : Nat} {t : TypeId} {cs : Array Value} (h : Whole w g t cs) (hg : Below w.heap.size w w') : Whole w' g t cs := (hg.block g h.lt).trans h
theorem gb_refl (w : World) (row : Option Nat) : w.grownBy w row := ⟨rfl, rfl, rfl, Nat.le_refl _, fun _ _ _ => rfl⟩
theorem gb_of_below {w w1 : World} (row : Option Nat) (h : Below w.heap.size w w1) : w.grownBy w1 row := ⟨h.os, h.tape, h.output, h.size, fun i hi _ => h.block i hi⟩
/-- A store into the row that may be written, or into a new block. -/
theorem gb_put {w w1 : World} {row : Option Nat} (h : w.grownBy w1 row) {p : Addr} (hp : row = some p.block ∨ w.heap.size ≤ p.block) (u : Value) : w.grownBy (w1.setCell p u) row :=
  ⟨h.os, h.tape, h.output, by simpa using h.size, fun i hi hr => by
    have hne : i ≠ p.block := by
      intro e
      rcases hp with hp | hp
      · exact hr (by rw [hp, e])
      · omega
    exact (heap_setCell_other w1 p i u hne).trans (h.block i hi hr)⟩
end Go.Proofs.Ytjgdfajooccalaa

/- Strings as lists of bytes. No program here. -/
namespace Go.Proofs.Ytjgdfajooccalaa
set_option linter.unusedVariables false

/-- A string of bytes. -/
def S (l : List UInt8) : ByteArray := ⟨l.toArray⟩
/-- Bytes as numbers. -/
def nums (l : List UInt8) : List Int := l.map fun c => (c.toNat : Int)
theorem nums_length (l : List UInt8) : (nums l).length = l.length := by simp [nums]
end Go.Proofs.Ytjgdfajooccalaa

/- Slices that read as a list of values; slices of bytes as strings. -/
namespace Go.Proofs.Ytjgdfajooccalaa
set_option linter.unusedVariables false
open Go.RowKit

/-- The slice at A reads as the values vs, in blocks below B. -/
def Lies (w : World) (B : Nat) (A : Option Addr) (vs : List Value) : Prop :=
  ∀ i v, vs[i]? = some v → ∃ b off, A = some ⟨b, off, none⟩ ∧ b < B ∧ w.cell? ⟨b, off + i, none⟩ = some v

theorem Lies.nil {w : World} {B : Nat} {A : Option Addr} : Lies w B A [] := fun i v h => by simp at h
theorem Lies.more {w : World} {B B' : Nat} {A : Option Addr} {vs : List Value} (h : Lies w B A vs) (hb : B ≤ B') : Lies w B' A vs := fun i v hv => by
  obtain ⟨b, off, e, h1, h2⟩ := h i v hv
  exact ⟨b, off, e, by omega, h2⟩
theorem Lies.below {w w' : World} {B B' : Nat} {A : Option Addr} {vs : List Value} (h : Lies w B A vs) (hb : Below B' w w') (hB : B ≤ B') : Lies w' B A vs := fun i v hv => by
  obtain ⟨b, off, e, h1, h2⟩ := h i v hv
  exact ⟨b, off, e, h1, (hb.cell (p := ⟨b, off + i, none⟩) (by show b < _; omega)).trans h2⟩
theorem Lies.grown {w w' : World} {B : Nat} {A : Option Addr} {vs : List Value} {row : Option Nat} (h : Lies w B A vs) (hg : w.grownBy w' row) (hB : B ≤ w.heap.size) (hr : ∀ g, row = some g → B ≤ g) : Lies w' B A vs := fun i v hv => by
  obtain ⟨b, off, e, h1, h2⟩ := h i v hv
  refine ⟨b, off, e, h1, (World.cell?_of_block (a := ⟨b, off + i, none⟩) (hg.block b (by omega) ?_)).trans h2⟩
  intro e'
  have := hr b e'.symm
  omega
theorem Lies.take {w : World} {B : Nat} {A : Option Addr} {vs : List Value} (h : Lies w B A vs) (k : Nat) : Lies w B A (vs.take k) := fun i v hv => by
  rw [List.getElem?_take] at hv
  split at hv
  · exact h i v hv
  · cases hv

/-- Bytes as values. -/
def cells (l : List Int) : List Value := l.map (.int .u8)
theorem cells_length (l : List Int) : (cells l).length = l.length := by simp [cells]
/-- What a function that makes bytes hands back: the bytes l, in a row of its own. -/
def Bytes (l : List Int) (w : World) (e : Ending) (w' : World) : Prop :=
  ∃ A c, e = .returned (.slice A l.length c) ∧ l.length ≤ c ∧ c ≤ maxLen ∧ Lies w' w'.heap.size A (cells l) ∧ (∀ a, A = some a → w.heap.size ≤ a.block ∧ a.block < w'.heap.size) ∧ Below w.heap.size w w'

end Go.Proofs.Ytjgdfajooccalaa

/- More of bits as lists. No walk here. -/
namespace Go.Proofs.Ytjgdfajooccalaa
open Go.RowKit
set_option linter.unusedVariables false

theorem bitsL_snoc : ∀ (k x : Nat), bitsL (k + 1) x = bitsL k x ++ [(x / 2 ^ k % 2 == 1)]
  | 0, x => by simp [bitsL]
  | k + 1, x => by
    have ih := bitsL_snoc k (x / 2)
    have e : bitsL (k + 1 + 1) x = (x % 2 == 1) :: bitsL (k + 1) (x / 2) := rfl
    rw [e, ih, Nat.div_div_eq_div_mul, show 2 * 2 ^ k = 2 ^ (k + 1) by rw [Nat.pow_succ, Nat.mul_comm]]
    rfl
theorem drop_atB {l : List Bool} {k : Nat} {x : Bool} (h : l[k]? = some x) : l.drop k = x :: l.drop (k + 1) := by
  obtain ⟨h1, h2⟩ := List.getElem?_eq_some_iff.1 h
  rw [List.drop_eq_getElem_cons h1, h2]
theorem cons_dropB {l r : List Bool} {k : Nat} {x : Bool} (h : x :: r = l.drop k) : r = l.drop (k + 1) ∧ l.take (k + 1) = l.take k ++ [x] := by
  have h0 : l[k]? = some x := by
    have := congrArg (fun t : List Bool => t[0]?) h
    simpa using this.symm
  refine ⟨?_, by rw [List.take_add_one, h0]; rfl⟩
  rw [drop_atB h0] at h
  injection h
theorem odd_eq (y : Nat) : ((y : Int) % 2 == 1) = (y % 2 == 1) := by
  rcases Nat.mod_two_eq_zero_or_one y with e | e
  · rw [show (y : Int) % 2 = 0 by omega, e]; rfl
  · rw [show (y : Int) % 2 = 1 by omega, e]; rfl
theorem less_top {a b : List Bool} {k : Nat} {x y : Bool} (hx : a[k]? = some x) (hy : b[k]? = some y) (hxy : ¬ x = y) (hd : a.drop (k + 1) = b.drop (k + 1)) (hl : a.length = b.length) : lessL a b = y := by
  have sp : ∀ (l : List Bool) (z : Bool), l[k]? = some z → numL l = numL (l.take k) + 2 ^ k * (z.toNat + 2 * numL (l.drop (k + 1))) ∧ numL (l.take k) < 2 ^ k := by
    intro l z hz
    have h1 := (List.getElem?_eq_some_iff.1 hz).1
    have e : l = l.take k ++ (z :: l.drop (k + 1)) := by rw [← drop_atB hz, List.take_append_drop]
    have hk : (l.take k).length = k := by rw [List.length_take]; omega
    refine ⟨?_, by have := numL_lt (l.take k); rw [hk] at this; exact this⟩
    conv => lhs; rw [e]
    rw [numL_app, hk]
    rfl
  obtain ⟨e1, h1⟩ := sp a x hx
  obtain ⟨e2, h2⟩ := sp b y hy
  rw [← hd] at e2
  unfold lessL
  rw [e1, e2]
  generalize numL (a.drop (k + 1)) = t
  generalize numL (a.take k) = p at *
  generalize numL (b.take k) = q at *
  generalize 2 ^ k = m at *
  cases x <;> cases y <;> simp at hxy ⊢
  · rw [Nat.mul_add, Nat.mul_one]; omega
  · rw [Nat.mul_add, Nat.mul_one]; omega
theorem tmod_bounds (y n : Int) (hn : 0 < n) : -n < Int.tmod y n ∧ Int.tmod y n < n := ⟨Int.lt_tmod_of_pos y hn, Int.tmod_lt_of_pos y hn⟩
theorem tmod_emod (y n : Int) (hn : 0 < n) : Int.tmod y n % n = y % n := by
  rw [Int.tmod_def, Int.sub_emod, Int.mul_emod_right, Int.sub_zero, Int.emod_emod]
/-- The product, from the lowest bit of b up. -/
def timesK (n : Nat) (a b : List Bool) : Nat → List Bool
  | 0 => List.replicate n false
  | k + 1 => if b.getD k false then addL (timesK n a b k) (shiftL n a k false) false else timesK n a b k
theorem timesK_len (n : Nat) (a b : List Bool) : ∀ k, (timesK n a b k).length = n
  | 0 => by simp [timesK]
  | k + 1 => by
    unfold timesK
    split
    · rw [addL_len _ _ _ (by rw [timesK_len n a b k, shiftL_len]), timesK_len n a b k]
    · exact timesK_len n a b k
theorem timesK_succ {n : Nat} {a b : List Bool} {k : Nat} {y : Bool} (h : b[k]? = some y) : timesK n a b (k + 1) = if y then addL (timesK n a b k) (shiftL n a k false) false else timesK n a b k := by
  have e : b.getD k false = y := by rw [List.getD_eq_getElem?_getD, h]; rfl
  conv => lhs; unfold timesK
  rw [e]
/-- One step of a quotient: bit i of a comes down. -/
def divStep (n : Nat) (a b : List Bool) (i : Nat) (s : List Bool × List Bool) : List Bool × List Bool :=
  if (s.2.getD (n - 1) false || !lessL ((shiftL n s.2 1 false).set 0 (a.getD i false)) b) = true then (s.1.set i true, addL ((shiftL n s.2 1 false).set 0 (a.getD i false)) (notL b) true) else (s.1, (shiftL n s.2 1 false).set 0 (a.getD i false))
def divK (n : Nat) (a b : List Bool) : Nat → List Bool × List Bool
  | 0 => (List.replicate n false, List.replicate n false)
  | t + 1 => divStep n a b (n - 1 - t) (divK n a b t)
theorem divK_len {n : Nat} {a b : List Bool} (hb : b.length = n) : ∀ t, (divK n a b t).1.length = n ∧ (divK n a b t).2.length = n
  | 0 => by simp [divK]
  | t + 1 => by
    have ih := divK_len (a := a) hb t
    unfold divK divStep
    split
    · exact ⟨by rw [List.length_set]; exact ih.1, by rw [addL_len _ _ _ (by rw [List.length_set, shiftL_len, notL_len, hb]), List.length_set, shiftL_len]⟩
    · exact ⟨ih.1, by rw [List.length_set, shiftL_len]⟩
/-- The quotient and what is left, with signs. -/
def signedS (x y : Bool) (p : List Bool × List Bool) : List Bool × List Bool := (if x != y then turnL p.1 else p.1, if x then turnL p.2 else p.2)
def sgnL (n : Nat) (a : List Bool) : List Bool := if a.getD (n - 1) false then turnL a else a
theorem sgnL_len (n : Nat) (a : List Bool) : (sgnL n a).length = a.length := by
  unfold sgnL
  split
  · exact turnL_len a
  · rfl
def signedL (n : Nat) (a b : List Bool) : List Bool × List Bool := signedS (a.getD (n - 1) false) (b.getD (n - 1) false) (divK n (sgnL n a) (sgnL n b) n)
theorem signedS_len {x y : Bool} {p r : List Bool} {n : Nat} (hp : p.length = n) (hr : r.length = n) : (signedS x y (p, r)).1.length = n ∧ (signedS x y (p, r)).2.length = n := by
  cases x <;> cases y <;> simp [signedS, turnL_len, hp, hr]
def quoT (n k : Nat) (x y : Bool) (s : List Bool × List Bool) : Nat × Int :=
  if k = 0 ∧ x = true ∧ y = true ∧ s.1.getD (n - 1) false = true then (0, 62) else if k < 2 then (numL s.1, 0) else (numL s.2, 0)
def quoP (n k : Nat) (a b : List Bool) : List Bool × List Bool := if k % 2 = 0 then signedL n a b else divK n a b n
def quoL (n k : Nat) (a b : List Bool) : Nat × Int := if numL b = 0 then (0, 61) else quoT n k (a.getD (n - 1) false) (b.getD (n - 1) false) (quoP n k a b)
def bop (k : Nat) (x y : Bool) : Bool := if k = 0 then x && y else if k = 1 then x || y else x != y
def bopL (k : Nat) (a b : List Bool) : List Bool := List.zipWith (bop k) a b
theorem bopL_len {k : Nat} {a b : List Bool} (h : a.length = b.length) : (bopL k a b).length = a.length := by simp [bopL, h]
theorem bopL_get {k i : Nat} {a b : List Bool} {x y : Bool} (hx : a[i]? = some x) (hy : b[i]? = some y) : (bopL k a b).take (i + 1) = (bopL k a b).take i ++ [bop k x y] := by
  rw [List.take_add_one]
  unfold bopL
  rw [List.getElem?_zipWith, hx, hy]
  rfl
/-- The comparisons: eq, ne, lt_s, lt_u, gt_s, gt_u, le_s, le_u, ge_s, ge_u. -/
def cmpF (k : Nat) (same less x y : Bool) : Bool :=
  if k = 0 then same else if k = 1 then !same else
    if (k - 2) / 2 = 0 then (if k % 2 = 0 ∧ x ≠ y then x else less) else
      if (k - 2) / 2 = 1 then !(if k % 2 = 0 ∧ x ≠ y then x else less) && !same else
        if (k - 2) / 2 = 2 then (if k % 2 = 0 ∧ x ≠ y then x else less) || same else !(if k % 2 = 0 ∧ x ≠ y then x else less)
def cmpL (n k : Nat) (a b : List Bool) : Bool := cmpF k (numL a == numL b) (lessL a b) (a.getD (n - 1) false) (b.getD (n - 1) false)
theorem int_beq (m n : Nat) : ((m : Int) == (n : Int)) = (m == n) := by
  by_cases h : m = n
  · subst h; simp
  · have h2 : ¬ (m : Int) = (n : Int) := by omega
    rw [beq_eq_false_iff_ne.2 h2, beq_eq_false_iff_ne.2 h]
theorem size_set (w : World) (p : Addr) (u : Value) : (w.setCell p u).heap.size = w.heap.size := by simp [World.setCell]
theorem size_box (w : World) (o : Obj) : (w.alloc o).heap.size = w.heap.size + 1 := by simp
theorem below_box (w : World) (o : Obj) : Below w.heap.size w (w.alloc o) := (Below.refl _ _).alloc (Nat.le_refl _) _
end Go.Proofs.Ytjgdfajooccalaa

/- What the bits of a result make as a number. No walk here. -/
namespace Go.Proofs.Ytjgdfajooccalaa
open Go.RowKit
set_option linter.unusedVariables false

theorem numL_take_succ {l : List Bool} {k : Nat} {x : Bool} (h : l[k]? = some x) : numL (l.take (k + 1)) = numL (l.take k) + 2 ^ k * x.toNat := by
  have hk := (List.getElem?_eq_some_iff.1 h).1
  rw [List.take_add_one, h, numL_app, List.length_take, Nat.min_eq_left (by omega)]
  simp [numL]
theorem timesK_num {n : Nat} {a b : List Bool} (ha : a.length = n) : ∀ k, k ≤ b.length → numL (timesK n a b k) = numL a * numL (b.take k) % 2 ^ n
  | 0, _ => by simp [timesK, numL_rep, numL]
  | k + 1, hk => by
    obtain ⟨x, hx⟩ : ∃ x, b[k]? = some x := ⟨_, List.getElem?_eq_getElem (by omega)⟩
    have ih := timesK_num (b := b) ha k (by omega)
    rw [timesK_succ hx, numL_take_succ hx]
    cases x
    · simp [ih]
    · simp only [if_true, Bool.toNat_true, Nat.mul_one]
      rw [numL_add _ _ _ (by rw [timesK_len, shiftL_len]), timesK_len, num_up ha, ih, Nat.mul_add]
      simp [Nat.add_mod]
theorem numL_set : ∀ (l : List Bool) (i : Nat), l[i]? = some false → numL (l.set i true) = numL l + 2 ^ i
  | [], i, h => by simp at h
  | b :: r, 0, h => by
    injection h with h
    subst h
    simp [numL]
    omega
  | b :: r, i + 1, h => by
    have ih := numL_set r i (by simpa using h)
    simp only [List.set_cons_succ, numL, ih, Nat.pow_succ]
    omega
theorem numL_set0 : ∀ (l : List Bool) (x : Bool), 0 < l.length → numL l % 2 = 0 → numL (l.set 0 x) = numL l + x.toNat
  | [], x, h, _ => by simp at h
  | b :: r, x, _, h2 => by
    simp only [numL] at h2
    cases b
    · simp [numL]; omega
    · (simp at h2; try omega)
theorem top_bit {n : Nat} {l : List Bool} (hl : l.length = n) (hn : 0 < n) : l.getD (n - 1) false = decide (2 ^ n ≤ 2 * numL l) := by
  have h := numL_get l (n - 1) (by omega)
  rw [← h]
  have h1 := numL_lt l
  rw [hl] at h1
  obtain ⟨m, rfl⟩ : ∃ m, n = m + 1 := ⟨n - 1, by omega⟩
  rw [Nat.add_sub_cancel]
  rw [Nat.pow_succ] at h1 ⊢
  have hp := Nat.two_pow_pos m
  by_cases hc : 2 ^ m ≤ numL l
  · have e : numL l / 2 ^ m = 1 := by
      rw [Nat.div_eq_of_lt_le] <;> omega
    rw [e, decide_eq_true (by omega)]
    rfl
  · rw [Nat.div_eq_of_lt (by omega), decide_eq_false (by omega)]
    rfl
/-- The quotient after t bits. -/
theorem divK_num {n : Nat} {a b : List Bool} (ha : a.length = n) (hb : b.length = n) (hB : 0 < numL b) : ∀ t, t ≤ n →
    numL (divK n a b t).1 = numL a / 2 ^ (n - t) / numL b * 2 ^ (n - t) ∧ numL (divK n a b t).2 = numL a / 2 ^ (n - t) % numL b
  | 0, _ => by
    have h1 := numL_lt a
    rw [ha] at h1
    have e : numL a / 2 ^ (n - 0) = 0 := Nat.div_eq_of_lt h1
    rw [e]
    simp [divK, numL_rep]
  | t + 1, ht => by
    obtain ⟨ih1, ih2⟩ := divK_num ha hb hB t (by omega)
    have hlen := divK_len (a := a) hb t
    have hd : divK n a b (t + 1) = divStep n a b (n - 1 - t) (divK n a b t) := rfl
    obtain ⟨⟨q, r⟩, hqr⟩ : ∃ st, st = divK n a b t := ⟨_, rfl⟩
    rw [← hqr] at ih1 ih2 hlen hd
    have hql : q.length = n := hlen.1
    have hrl : r.length = n := hlen.2
    have ih1 : numL q = numL a / 2 ^ (n - t) / numL b * 2 ^ (n - t) := ih1
    have ih2 : numL r = numL a / 2 ^ (n - t) % numL b := ih2
    obtain ⟨i, hi⟩ : ∃ i, i = n - 1 - t := ⟨_, rfl⟩
    have e1 : n - t = i + 1 := by omega
    have e2 : n - (t + 1) = i := by omega
    rw [e1] at ih1 ih2
    rw [e2, hd, ← hi]
    obtain ⟨x, hx⟩ : ∃ x, a[i]? = some x := ⟨_, List.getElem?_eq_getElem (by omega)⟩
    have hgx : a.getD i false = x := by rw [List.getD_eq_getElem?_getD, hx]; rfl
    have hbit := numL_get a i (by omega)
    rw [hgx] at hbit
    obtain ⟨hi0, hhi⟩ : ∃ h, h = numL a / 2 ^ (i + 1) := ⟨_, rfl⟩
    have hA : numL a / 2 ^ i = 2 * hi0 + x.toNat := by
      have h9 : numL a / 2 ^ i / 2 = hi0 := by rw [hhi, Nat.div_div_eq_div_mul, Nat.pow_succ]
      have h8 : numL a / 2 ^ i % 2 = x.toNat := by
        rcases Nat.mod_two_eq_zero_or_one (numL a / 2 ^ i) with h7 | h7
        · rw [h7] at hbit ⊢; rw [← hbit]; rfl
        · rw [h7] at hbit ⊢; rw [← hbit]; rfl
      omega
    rw [← hhi] at ih1 ih2
    have hBn := numL_lt b
    rw [hb] at hBn
    have hrn := numL_lt r
    rw [hrl] at hrn
    have hrB : numL r < numL b := by rw [ih2]; exact Nat.mod_lt _ hB
    have hx1 : x.toNat ≤ 1 := by cases x <;> decide
    have hs0 : numL (shiftL n r ((1 : Nat) : Int) false) = numL r * 2 ^ 1 % 2 ^ n := num_up hrl 1
    have hs1 : numL (shiftL n r 1 false) = numL r * 2 % 2 ^ n := by simpa using hs0
    have hpn : 2 ∣ 2 ^ n := ⟨2 ^ (n - 1), by
      obtain ⟨m, hm⟩ : ∃ m, n = m + 1 := ⟨n - 1, by omega⟩
      rw [hm, Nat.add_sub_cancel, Nat.pow_succ, Nat.mul_comm]⟩
    have hev : numL (shiftL n r 1 false) % 2 = 0 := by rw [hs1, Nat.mod_mod_of_dvd _ hpn]; omega
    have hr2 : numL ((shiftL n r 1 false).set 0 x) = numL r * 2 % 2 ^ n + x.toNat := by rw [numL_set0 _ _ (by rw [shiftL_len]; omega) hev, hs1]
    have htop := top_bit hrl (by omega)
    obtain ⟨T, hT⟩ : ∃ T, T = 2 * numL r + x.toNat := ⟨_, rfl⟩
    have hmod : numL r * 2 % 2 ^ n = if 2 ^ n ≤ 2 * numL r then 2 * numL r - 2 ^ n else 2 * numL r := by
      split
      · rw [Nat.mod_eq_sub_mod (by omega), Nat.mod_eq_of_lt (by omega)]; omega
      · rw [Nat.mod_eq_of_lt (by omega)]; omega
    have hcond : (r.getD (n - 1) false || !lessL ((shiftL n r 1 false).set 0 x) b) = decide (numL b ≤ T) := by
      rw [htop]
      unfold lessL
      rw [hr2, hmod]
      by_cases h5 : 2 ^ n ≤ 2 * numL r
      · rw [if_pos h5, decide_eq_true h5, Bool.true_or, decide_eq_true (by omega)]
      · rw [if_neg h5, decide_eq_false h5, Bool.false_or]
        by_cases h6 : 2 * numL r + x.toNat < numL b
        · rw [decide_eq_true h6, decide_eq_false (by omega)]; rfl
        · rw [decide_eq_false h6, decide_eq_true (by omega)]; rfl
    have hTB : T < 2 * numL b := by omega
    have hsplit : 2 * hi0 + x.toNat = 2 * (hi0 / numL b) * numL b + T := by
      have := Nat.div_add_mod hi0 (numL b)
      rw [hT, ih2]
      rw [Nat.mul_assoc, Nat.mul_comm (hi0 / numL b)]
      omega
    unfold divStep
    rw [show (q, r).2 = r from rfl, show (q, r).1 = q from rfl, hgx, hcond]
    by_cases hc : numL b ≤ T
    · rw [if_pos (by simpa using hc)]
      have hqi : q[i]? = some false := by
        obtain ⟨z, hz⟩ : ∃ z, q[i]? = some z := ⟨_, List.getElem?_eq_getElem (by omega)⟩
        have h4 := numL_get q i (by omega)
        rw [List.getD_eq_getElem?_getD, hz, Option.getD_some] at h4
        rw [ih1, Nat.pow_succ, ← Nat.mul_assoc, Nat.mul_right_comm, Nat.mul_div_cancel _ (Nat.two_pow_pos i), Nat.mul_mod_left] at h4
        rw [hz, ← h4]
        rfl
      have hq' : (2 * hi0 + x.toNat) / numL b = 2 * (hi0 / numL b) + 1 ∧ (2 * hi0 + x.toNat) % numL b = T - numL b := by
        have e : 2 * hi0 + x.toNat = (T - numL b) + numL b * (2 * (hi0 / numL b) + 1) := by rw [hsplit, Nat.mul_add, Nat.mul_one, Nat.mul_comm (numL b)]; omega
        rw [e, Nat.add_mul_div_left _ _ hB, Nat.add_mul_mod_self_left, Nat.div_eq_of_lt (by omega), Nat.mod_eq_of_lt (by omega)]
        exact ⟨by omega, rfl⟩
      rw [hA, hq'.1, hq'.2]
      refine ⟨?_, ?_⟩
      · show numL (q.set i true) = _
        rw [numL_set q i hqi, ih1, Nat.pow_succ]
        rw [Nat.add_mul, Nat.one_mul, Nat.mul_comm (2 ^ i) 2, ← Nat.mul_assoc, Nat.mul_comm _ 2]
      · show numL (addL ((shiftL n r 1 false).set 0 x) (notL b) true) = _
        have hnb := numL_not b
        rw [hb] at hnb
        rw [numL_add _ _ _ (by rw [List.length_set, shiftL_len, notL_len, hb]), List.length_set, shiftL_len, hr2, hmod]
        have e8 : numL (notL b) + 1 = 2 ^ n - numL b := by omega
        split
        · rw [show 2 * numL r - 2 ^ n + x.toNat + numL (notL b) + true.toNat = T - numL b by simp; omega, Nat.mod_eq_of_lt (by omega)]
        · rw [show 2 * numL r + x.toNat + numL (notL b) + true.toNat = (T - numL b) + 2 ^ n by simp; omega, Nat.add_mod_right, Nat.mod_eq_of_lt (by omega)]
    · rw [if_neg (by simpa using hc)]
      have hq' : (2 * hi0 + x.toNat) / numL b = 2 * (hi0 / numL b) ∧ (2 * hi0 + x.toNat) % numL b = T := by
        have e : 2 * hi0 + x.toNat = T + numL b * (2 * (hi0 / numL b)) := by rw [hsplit, Nat.mul_comm (numL b)]; omega
        rw [e, Nat.add_mul_div_left _ _ hB, Nat.add_mul_mod_self_left, Nat.div_eq_of_lt (by omega), Nat.mod_eq_of_lt (by omega)]
        exact ⟨by omega, rfl⟩
      rw [hA, hq'.1, hq'.2]
      refine ⟨?_, ?_⟩
      · show numL q = _
        rw [ih1, Nat.pow_succ, Nat.mul_comm (2 ^ i) 2, ← Nat.mul_assoc, Nat.mul_comm _ 2]
      · show numL ((shiftL n r 1 false).set 0 x) = _
        rw [hr2, hmod, if_neg (by omega)]
        omega
/-- How often, and what is left. -/
theorem div_num {n : Nat} {a b : List Bool} (ha : a.length = n) (hb : b.length = n) (hB : 0 < numL b) : numL (divK n a b n).1 = numL a / numL b ∧ numL (divK n a b n).2 = numL a % numL b := by
  have h := divK_num ha hb hB n (Nat.le_refl _)
  simpa using h
end Go.Proofs.Ytjgdfajooccalaa
