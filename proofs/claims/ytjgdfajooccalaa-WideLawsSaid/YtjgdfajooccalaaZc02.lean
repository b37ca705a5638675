/- The results of the reference as numbers: sums, bits, shifts, signs, comparisons. No walk here. -/
import Derived.Test.YtjgdfajooccalaaZc01
import Derived.Lib.BitFns
import Derived.Lib.TrailingZeros
import Derived.Lib.Small
import Derived.Laws.BitsAllLaws
namespace Go.Proofs.Ytjgdfajooccalaa
open Go.RowKit
set_option linter.unusedVariables false

section
variable {n : Nat} {a b : List Bool}
theorem add_num (ha : a.length = n) (hb : b.length = n) : numL (addL a b false) = (numL a + numL b) % 2 ^ n := by
  rw [numL_add _ _ _ (by omega), ha]
  simp
theorem sub_num (ha : a.length = n) (hb : b.length = n) : numL (addL a (notL b) true) = (numL a + (2 ^ n - numL b)) % 2 ^ n := by
  have h := numL_not b
  rw [hb] at h
  rw [numL_add _ _ _ (by rw [notL_len]; omega), ha]
  congr 1
  simp
  omega
theorem mul_num (ha : a.length = n) (hb : b.length = n) : numL (timesK n a b n) = numL a * numL b % 2 ^ n := by
  have h := timesK_num (b := b) ha n (by omega)
  rwa [List.take_of_length_le (by omega)] at h
theorem sgn_num (ha : a.length = n) : numL (sgnL n a) = if a.getD (n - 1) false then (2 ^ n - numL a) % 2 ^ n else numL a := by
  unfold sgnL
  split
  · rw [numL_turn, ha]
  · rfl
theorem sgn_pos (ha : a.length = n) (h : 0 < numL a) : 0 < numL (sgnL n a) := by
  have h1 := numL_lt a
  rw [ha] at h1
  rw [sgn_num ha]
  split
  · rw [Nat.mod_eq_of_lt (by omega)]; omega
  · exact h
theorem signed_num (ha : a.length = n) (hb : b.length = n) (hB : 0 < numL b) :
    numL (signedL n a b).1 = (if a.getD (n - 1) false != b.getD (n - 1) false then (2 ^ n - numL (sgnL n a) / numL (sgnL n b)) % 2 ^ n else numL (sgnL n a) / numL (sgnL n b)) ∧
    numL (signedL n a b).2 = (if a.getD (n - 1) false then (2 ^ n - numL (sgnL n a) % numL (sgnL n b)) % 2 ^ n else numL (sgnL n a) % numL (sgnL n b)) := by
  have h1 := sgnL_len n a
  have h2 := sgnL_len n b
  have hd := div_num (n := n) (a := sgnL n a) (b := sgnL n b) (by omega) (by omega) (sgn_pos hb hB)
  have hl := divK_len (n := n) (a := sgnL n a) (b := sgnL n b) (by omega) n
  unfold signedL
  obtain ⟨⟨p, r⟩, hst⟩ : ∃ st, st = divK n (sgnL n a) (sgnL n b) n := ⟨_, rfl⟩
  rw [← hst] at hd hl ⊢
  have hp : p.length = n := hl.1
  have hr : r.length = n := hl.2
  have dp : numL p = _ := hd.1
  have dr : numL r = _ := hd.2
  generalize a.getD (n - 1) false = x
  generalize b.getD (n - 1) false = y
  unfold signedS
  cases x <;> cases y <;> simp [numL_turn, hp, hr, dp, dr]
theorem bit_and (x y i : Nat) : ((x &&& y) / 2 ^ i % 2 == 1) = ((x / 2 ^ i % 2 == 1) && (y / 2 ^ i % 2 == 1)) := by
  have h := Nat.testBit_and x y i
  rw [Nat.testBit_eq_decide_div_mod_eq, Nat.testBit_eq_decide_div_mod_eq, Nat.testBit_eq_decide_div_mod_eq] at h
  exact h
theorem bit_or (x y i : Nat) : ((x ||| y) / 2 ^ i % 2 == 1) = ((x / 2 ^ i % 2 == 1) || (y / 2 ^ i % 2 == 1)) := by
  have h := Nat.testBit_or x y i
  rw [Nat.testBit_eq_decide_div_mod_eq, Nat.testBit_eq_decide_div_mod_eq, Nat.testBit_eq_decide_div_mod_eq] at h
  exact h
theorem bit_xor (x y i : Nat) : ((x ^^^ y) / 2 ^ i % 2 == 1) = ((x / 2 ^ i % 2 == 1) != (y / 2 ^ i % 2 == 1)) := by
  have h := Nat.testBit_xor x y i
  rw [Nat.testBit_eq_decide_div_mod_eq, Nat.testBit_eq_decide_div_mod_eq, Nat.testBit_eq_decide_div_mod_eq] at h
  exact h
theorem bop_getD {k i : Nat} (ha : a.length = n) (hb : b.length = n) (hi : i < n) : (bopL k a b).getD i false = bop k (numL a / 2 ^ i % 2 == 1) (numL b / 2 ^ i % 2 == 1) := by
  rw [numL_get a i (by omega), numL_get b i (by omega)]
  unfold bopL
  rw [List.getD_eq_getElem?_getD, List.getElem?_zipWith, List.getElem?_eq_getElem (by omega : i < a.length), List.getElem?_eq_getElem (by omega : i < b.length), List.getD_eq_getElem?_getD, List.getD_eq_getElem?_getD, List.getElem?_eq_getElem (by omega : i < a.length), List.getElem?_eq_getElem (by omega : i < b.length)]
  rfl
theorem and_num (ha : a.length = n) (hb : b.length = n) : numL (bopL 0 a b) = (numL a &&& numL b) % 2 ^ n :=
  numL_ext (by rw [bopL_len (by omega), ha]) fun i hi => by rw [bop_getD ha hb hi, bit_and]; rfl
theorem or_num (ha : a.length = n) (hb : b.length = n) : numL (bopL 1 a b) = (numL a ||| numL b) % 2 ^ n :=
  numL_ext (by rw [bopL_len (by omega), ha]) fun i hi => by rw [bop_getD ha hb hi, bit_or]; rfl
theorem xor_num (ha : a.length = n) (hb : b.length = n) : numL (bopL 2 a b) = (numL a ^^^ numL b) % 2 ^ n :=
  numL_ext (by rw [bopL_len (by omega), ha]) fun i hi => by rw [bop_getD ha hb hi, bit_xor]; rfl
end
/-- A number below 2^n is what its n bits make. -/
theorem num_of {n v : Nat} (h : v < 2 ^ n) : numL (bitsL n v) = v := by rw [num_bits, Nat.mod_eq_of_lt h]
theorem top_of {n v : Nat} (hn : 0 < n) (h : v < 2 ^ n) : (bitsL n v).getD (n - 1) false = decide (2 ^ n ≤ 2 * v) := by rw [top_bit (bitsL_len n v) hn, num_of h]
theorem less_of {n v u : Nat} (hv : v < 2 ^ n) (hu : u < 2 ^ n) : lessL (bitsL n v) (bitsL n u) = decide (v < u) := by unfold lessL; rw [num_of hv, num_of hu]
end Go.Proofs.Ytjgdfajooccalaa

/- Zero bits ahead, zero bits behind, bits that are set: the reference's counts are the library's. No walk here. -/
namespace Go.Proofs.Ytjgdfajooccalaa
open Go.RowKit
set_option linter.unusedVariables false
theorem popAux_zero : ∀ n, Lib.popAux n 0 = 0
  | 0 => rfl
  | n + 1 => by simp [Lib.popAux, popAux_zero n]
theorem popAux_add : ∀ (a b v : Nat), Lib.popAux (a + b) v = Lib.popAux a v + Lib.popAux b (v / 2 ^ a)
  | 0, b, v => by simp [Lib.popAux]
  | a + 1, b, v => by
    have e : a + 1 + b = (a + b) + 1 := by omega
    rw [e]
    simp only [Lib.popAux]
    rw [popAux_add a b (v / 2), Nat.div_div_eq_div_mul, show 2 * 2 ^ a = 2 ^ (a + 1) by rw [Nat.pow_succ, Nat.mul_comm]]
    omega
theorem pop_of {n v : Nat} (hv : v < 2 ^ n) (hn : n ≤ 64) : Lib.onesCount v = Lib.popAux n v := by
  unfold Lib.onesCount
  obtain ⟨k, hk⟩ : ∃ k, 64 = n + k := ⟨64 - n, by omega⟩
  rw [hk, popAux_add, Nat.div_eq_of_lt hv, popAux_zero]
  omega
end Go.Proofs.Ytjgdfajooccalaa

/- Bits counted in fields of two, four, eight: what package math/bits makes of 64 bits is how many are set. No walk here. -/
namespace Go.Proofs.Ytjgdfajooccalaa
open Go.RowKit
set_option linter.unusedVariables false
/-- The even fields of w bits, n of them. -/
def evF (w : Nat) : Nat → Nat → Nat
  | 0, _ => 0
  | n + 1, y => y % 2 ^ w + 2 ^ (2 * w) * evF w n (y / 2 ^ (2 * w))
/-- The mask of the even fields. -/
def mkF (w : Nat) : Nat → Nat
  | 0 => 0
  | n + 1 => (2 ^ w - 1) + 2 ^ (2 * w) * mkF w n
/-- The counts of the fields of w bits, each in its field. -/
def pcF (w : Nat) : Nat → Nat → Nat
  | 0, _ => 0
  | n + 1, x => Lib.popAux w x + 2 ^ w * pcF w n (x / 2 ^ w)
theorem and_split (a b c d k : Nat) (ha : a < 2 ^ k) (hc : c < 2 ^ k) : (a + 2 ^ k * b) &&& (c + 2 ^ k * d) = (a &&& c) + 2 ^ k * (b &&& d) := by
  apply Nat.eq_of_testBit_eq
  intro i
  have hac : a &&& c < 2 ^ k := Nat.lt_of_le_of_lt Nat.and_le_left ha
  rw [Nat.testBit_and]
  rw [show a + 2 ^ k * b = 2 ^ k * b + a by omega, show c + 2 ^ k * d = 2 ^ k * d + c by omega, show (a &&& c) + 2 ^ k * (b &&& d) = 2 ^ k * (b &&& d) + (a &&& c) by omega]
  rw [Nat.testBit_two_pow_mul_add _ ha, Nat.testBit_two_pow_mul_add _ hc, Nat.testBit_two_pow_mul_add _ hac]
  split
  · rw [Nat.testBit_and]
  · rw [Nat.testBit_and]
theorem ev_mask (w : Nat) : ∀ (n y : Nat), y &&& mkF w n = evF w n y
  | 0, y => by simp [mkF, evF]
  | n + 1, y => by
    simp only [mkF, evF]
    have hp := Nat.two_pow_pos w
    have hp2 := Nat.two_pow_pos (2 * w)
    have hle : 2 ^ w ≤ 2 ^ (2 * w) := Nat.pow_le_pow_right (by decide) (by omega)
    conv => lhs; rw [← Nat.mod_add_div y (2 ^ (2 * w))]
    rw [and_split _ _ _ _ _ (Nat.mod_lt _ hp2) (by omega), ev_mask w n, Nat.and_two_pow_sub_one_eq_mod]
    congr 1
    rw [show 2 * w = w + w by omega, Nat.pow_add]
    exact Nat.mod_mul_right_mod _ _ _
theorem popAux_le : ∀ (n v : Nat), Lib.popAux n v ≤ n
  | 0, _ => Nat.le_refl _
  | n + 1, v => by
    have := popAux_le n (v / 2)
    simp only [Lib.popAux]
    omega
theorem lt_pow : ∀ w : Nat, w < 2 ^ w := fun w => Nat.lt_two_pow_self
theorem pc_two {w n x : Nat} : pcF w (n + 2) x = Lib.popAux w x + 2 ^ w * (Lib.popAux w (x / 2 ^ w) + 2 ^ w * pcF w n (x / 2 ^ (2 * w))) := by
  simp only [pcF]
  rw [Nat.div_div_eq_div_mul, ← Nat.pow_add, show w + w = 2 * w by omega]
theorem two_fields {w a b r : Nat} (ha : a < 2 ^ w) (hb : b < 2 ^ w) : (a + 2 ^ w * (b + 2 ^ w * r)) % 2 ^ w = a ∧ (a + 2 ^ w * (b + 2 ^ w * r)) / 2 ^ w = b + 2 ^ w * r ∧ (a + 2 ^ w * (b + 2 ^ w * r)) / 2 ^ (2 * w) = r ∧ (b + 2 ^ w * r) % 2 ^ w = b ∧ (b + 2 ^ w * r) / 2 ^ w = r ∧ (b + 2 ^ w * r) / 2 ^ (2 * w) = r / 2 ^ w := by
  have hp := Nat.two_pow_pos w
  have e1 : (a + 2 ^ w * (b + 2 ^ w * r)) / 2 ^ w = b + 2 ^ w * r := by rw [Nat.add_mul_div_left _ _ hp, Nat.div_eq_of_lt ha, Nat.zero_add]
  have e2 : (b + 2 ^ w * r) / 2 ^ w = r := by rw [Nat.add_mul_div_left _ _ hp, Nat.div_eq_of_lt hb, Nat.zero_add]
  refine ⟨by rw [Nat.add_mul_mod_self_left, Nat.mod_eq_of_lt ha], e1, ?_, by rw [Nat.add_mul_mod_self_left, Nat.mod_eq_of_lt hb], e2, by rw [show 2 * w = w + w by omega, Nat.pow_add, ← Nat.div_div_eq_div_mul, e2]⟩
  rw [show 2 * w = w + w by omega, Nat.pow_add, ← Nat.div_div_eq_div_mul, e1, e2]
/-- One step: fields of w bits to fields of 2 w. -/
theorem step_sum {w : Nat} : ∀ (n x : Nat), evF w n (pcF w (2 * n) x / 2 ^ w) + evF w n (pcF w (2 * n) x) = pcF (2 * w) n x
  | 0, x => by simp [evF, pcF]
  | n + 1, x => by
    have ih := step_sum (w := w) n (x / 2 ^ (2 * w))
    have l1 := Nat.lt_of_le_of_lt (popAux_le w x) (lt_pow w)
    have l2 := Nat.lt_of_le_of_lt (popAux_le w (x / 2 ^ w)) (lt_pow w)
    rw [show 2 * (n + 1) = 2 * n + 2 by omega, pc_two]
    obtain ⟨f1, f2, f3, f4, f5, f6⟩ := two_fields (w := w) (r := pcF w (2 * n) (x / 2 ^ (2 * w))) l1 l2
    simp only [evF]
    rw [f1, f2, f3, f4]
    rw [f6]
    simp only [pcF]
    rw [show 2 * w = w + w by omega, popAux_add w w x, show w + w = 2 * w by omega, ← ih, Nat.mul_add]
    omega
theorem pc_low {w : Nat} : ∀ (n x : Nat), pcF w n x % 2 ^ w ≤ w
  | 0, x => by simp [pcF]
  | n + 1, x => by
    simp only [pcF]
    rw [Nat.add_mul_mod_self_left]
    exact Nat.le_trans (Nat.mod_le _ _) (popAux_le w x)
/-- One step where the fields have room for the sum. -/
theorem step_room {w : Nat} (hw : 2 * w < 2 ^ w) : ∀ (n x : Nat), evF w n (pcF w (2 * n) x / 2 ^ w + pcF w (2 * n) x) = pcF (2 * w) n x
  | 0, x => by simp [evF, pcF]
  | n + 1, x => by
    have ih := step_room hw n (x / 2 ^ (2 * w))
    have a1 := popAux_le w x
    have a2 := popAux_le w (x / 2 ^ w)
    have hp := Nat.two_pow_pos w
    have lo := pc_low (w := w) (2 * n) (x / 2 ^ (2 * w))
    rw [show 2 * (n + 1) = 2 * n + 2 by omega, pc_two]
    obtain ⟨f1, f2, f3, f4, f5, _⟩ := two_fields (w := w) (a := Lib.popAux w x) (b := Lib.popAux w (x / 2 ^ w)) (r := pcF w (2 * n) (x / 2 ^ (2 * w))) (by omega) (by omega)
    simp only [evF]
    rw [f2]
    have g1 : Lib.popAux (2 * w) x = Lib.popAux w x + Lib.popAux w (x / 2 ^ w) := by rw [show 2 * w = w + w by omega, popAux_add w w x]
    simp only [pcF]
    rw [g1, ← ih]
    generalize pcF w (2 * n) (x / 2 ^ (2 * w)) = r at *
    generalize Lib.popAux w x = a at *
    generalize Lib.popAux w (x / 2 ^ w) = b at *
    rw [show b + 2 ^ w * r + (a + 2 ^ w * (b + 2 ^ w * r)) = (a + b) + 2 ^ w * ((b + r) + 2 ^ w * r) by rw [Nat.mul_add, Nat.mul_add, Nat.mul_add]; omega]
    have e2 : ((a + b) + 2 ^ w * ((b + r) + 2 ^ w * r)) / 2 ^ (2 * w) = r / 2 ^ w + r := by
      rw [show 2 * w = w + w by omega, Nat.pow_add, ← Nat.div_div_eq_div_mul, Nat.add_mul_div_left _ _ hp, Nat.div_eq_of_lt (by omega : a + b < 2 ^ w), Nat.zero_add, Nat.add_mul_div_left _ _ hp]
      congr 1
      have h := Nat.mod_add_div r (2 ^ w)
      have h2 : b + r = (b + r % 2 ^ w) + 2 ^ w * (r / 2 ^ w) := by omega
      rw [h2, Nat.add_mul_div_left _ _ hp, Nat.div_eq_of_lt (by omega), Nat.zero_add]
    rw [e2, Nat.add_mul_mod_self_left, Nat.mod_eq_of_lt (by omega : a + b < 2 ^ w)]
theorem pc_one : ∀ (n x : Nat), x < 2 ^ n → pcF 1 n x = x
  | 0, x, h => by simp at h; subst h; rfl
  | n + 1, x, h => by
    simp only [pcF]
    rw [show (2 : Nat) ^ 1 = 2 by decide, pc_one n (x / 2) (by rw [Nat.pow_succ] at h; omega)]
    simp [Lib.popAux]
    omega
/-- Eight bytes summed. -/
theorem pc_sum {x y : Nat} (hy : y = pcF 8 8 x) : ∃ a b c : Nat, y + y / 256 = a ∧ a + a / 65536 = b ∧ b + b / 4294967296 = c ∧ a < 18446744073709551616 ∧ b < 18446744073709551616 ∧ c < 18446744073709551616 ∧ c % 128 = Lib.popAux 64 x := by
  refine ⟨_, _, _, rfl, rfl, rfl, ?_⟩
  have p := fun v => popAux_le 8 v
  have A : ∀ b v, Lib.popAux (8 + b) v = Lib.popAux 8 v + Lib.popAux b (v / 256) := fun b v => popAux_add 8 b v
  have e : Lib.popAux 64 x = Lib.popAux 8 x + (Lib.popAux 8 (x / 256) + (Lib.popAux 8 (x / 256 / 256) + (Lib.popAux 8 (x / 256 / 256 / 256) + (Lib.popAux 8 (x / 256 / 256 / 256 / 256) + (Lib.popAux 8 (x / 256 / 256 / 256 / 256 / 256) + (Lib.popAux 8 (x / 256 / 256 / 256 / 256 / 256 / 256) + (Lib.popAux 8 (x / 256 / 256 / 256 / 256 / 256 / 256 / 256)))))))) := by
    have e0 : Lib.popAux (8 + (8 + (8 + (8 + (8 + (8 + (8 + 8))))))) x = Lib.popAux 8 x + (Lib.popAux 8 (x / 256) + (Lib.popAux 8 (x / 256 / 256) + (Lib.popAux 8 (x / 256 / 256 / 256) + (Lib.popAux 8 (x / 256 / 256 / 256 / 256) + (Lib.popAux 8 (x / 256 / 256 / 256 / 256 / 256) + (Lib.popAux 8 (x / 256 / 256 / 256 / 256 / 256 / 256) + (Lib.popAux 8 (x / 256 / 256 / 256 / 256 / 256 / 256 / 256)))))))) := by rw [A, A, A, A, A, A, A]
    exact e0
  have B : ∀ n v, pcF 8 (n + 1) v = Lib.popAux 8 v + 256 * pcF 8 n (v / 256) := fun n v => rfl
  have k0 : pcF 8 8 (x) = Lib.popAux 8 (x) + 256 * pcF 8 7 (x / 256) := B 7 _
  have k1 : pcF 8 7 (x / 256) = Lib.popAux 8 (x / 256) + 256 * pcF 8 6 (x / 256 / 256) := B 6 _
  have k2 : pcF 8 6 (x / 256 / 256) = Lib.popAux 8 (x / 256 / 256) + 256 * pcF 8 5 (x / 256 / 256 / 256) := B 5 _
  have k3 : pcF 8 5 (x / 256 / 256 / 256) = Lib.popAux 8 (x / 256 / 256 / 256) + 256 * pcF 8 4 (x / 256 / 256 / 256 / 256) := B 4 _
  have k4 : pcF 8 4 (x / 256 / 256 / 256 / 256) = Lib.popAux 8 (x / 256 / 256 / 256 / 256) + 256 * pcF 8 3 (x / 256 / 256 / 256 / 256 / 256) := B 3 _
  have k5 : pcF 8 3 (x / 256 / 256 / 256 / 256 / 256) = Lib.popAux 8 (x / 256 / 256 / 256 / 256 / 256) + 256 * pcF 8 2 (x / 256 / 256 / 256 / 256 / 256 / 256) := B 2 _
  have k6 : pcF 8 2 (x / 256 / 256 / 256 / 256 / 256 / 256) = Lib.popAux 8 (x / 256 / 256 / 256 / 256 / 256 / 256) + 256 * pcF 8 1 (x / 256 / 256 / 256 / 256 / 256 / 256 / 256) := B 1 _
  have k7 : pcF 8 1 (x / 256 / 256 / 256 / 256 / 256 / 256 / 256) = Lib.popAux 8 (x / 256 / 256 / 256 / 256 / 256 / 256 / 256) + 256 * pcF 8 0 (x / 256 / 256 / 256 / 256 / 256 / 256 / 256 / 256) := B 0 _
  have k8 : pcF 8 0 (x / 256 / 256 / 256 / 256 / 256 / 256 / 256 / 256) = 0 := rfl
  rw [k0, k1, k2, k3, k4, k5, k6, k7, k8] at hy
  clear A B k0 k1 k2 k3 k4 k5 k6 k7 k8
  rw [e]
  have p0 := p x
  have p1 := p (x / 256)
  have p2 := p (x / 256 / 256)
  have p3 := p (x / 256 / 256 / 256)
  have p4 := p (x / 256 / 256 / 256 / 256)
  have p5 := p (x / 256 / 256 / 256 / 256 / 256)
  have p6 := p (x / 256 / 256 / 256 / 256 / 256 / 256)
  have p7 := p (x / 256 / 256 / 256 / 256 / 256 / 256 / 256)
  generalize Lib.popAux 8 x = c0 at *
  generalize Lib.popAux 8 (x / 256) = c1 at *
  generalize Lib.popAux 8 (x / 256 / 256) = c2 at *
  generalize Lib.popAux 8 (x / 256 / 256 / 256) = c3 at *
  generalize Lib.popAux 8 (x / 256 / 256 / 256 / 256) = c4 at *
  generalize Lib.popAux 8 (x / 256 / 256 / 256 / 256 / 256) = c5 at *
  generalize Lib.popAux 8 (x / 256 / 256 / 256 / 256 / 256 / 256) = c6 at *
  generalize Lib.popAux 8 (x / 256 / 256 / 256 / 256 / 256 / 256 / 256) = c7 at *
  clear e p
  have D : ∀ m r q : Nat, r < m → (r + m * q) / m = q := fun m r q h => by rw [Nat.add_mul_div_left _ _ (by omega), Nat.div_eq_of_lt h, Nat.zero_add]
  obtain ⟨q1, hq1⟩ : ∃ q1, q1 = c1 + 256 * (c2 + 256 * (c3 + 256 * (c4 + 256 * (c5 + 256 * (c6 + 256 * c7))))) := ⟨_, rfl⟩
  have hy1 : y = c0 + 256 * q1 := by rw [hy, hq1]; omega
  clear hy
  have d1 : y / 256 = q1 := by rw [hy1]; exact D _ _ _ (by omega)
  rw [d1]
  clear d1
  obtain ⟨s2, hs2⟩ : ∃ s, s = (c2 + c3) + 256 * (c3 + c4) + 65536 * (c4 + c5) + 16777216 * (c5 + c6) + 4294967296 * (c6 + c7) + 1099511627776 * c7 := ⟨_, rfl⟩
  have h2 : y + q1 = ((c0 + c1) + 256 * (c1 + c2)) + 65536 * s2 := by rw [hy1, hs2, hq1]; omega
  have d2 : (y + q1) / 65536 = s2 := by rw [h2]; exact D _ _ _ (by omega)
  rw [d2]
  clear d2
  obtain ⟨s3, hs3⟩ : ∃ s, s = (c4 + c5 + c6 + c7) + 256 * (c5 + c6 + c7) + 65536 * (c6 + c7) + 16777216 * c7 := ⟨_, rfl⟩
  have h3 : y + q1 + s2 = ((c0 + c1 + c2 + c3) + 256 * (c1 + c2 + c3 + c4) + 65536 * (c2 + c3 + c4 + c5) + 16777216 * (c3 + c4 + c5 + c6)) + 4294967296 * s3 := by rw [h2, hs3, hs2]; omega
  have d3 : (y + q1 + s2) / 4294967296 = s3 := by rw [h3]; exact D _ _ _ (by omega)
  rw [d3]
  clear d3 D
  have b1 : s3 ≤ 600000000 := by clear h2 h3 hy1; omega
  have b2 : s2 ≤ 20000000000000 := by clear h2 h3 hy1; omega
  have h4 : y + q1 + s2 + s3 = (c0 + c1 + c2 + c3 + c4 + c5 + c6 + c7) + 128 * (2 * ((c1 + c2 + c3 + c4 + c5 + c6 + c7) + 256 * (c2 + c3 + c4 + c5 + c6 + c7) + 65536 * (c3 + c4 + c5 + c6 + c7) + 16777216 * s3)) := by
    rw [h3, hs3]; clear h2 h3 hs3 hs2 hy1 hq1; omega
  have h5 : (y + q1 + s2 + s3) % 128 = c0 + c1 + c2 + c3 + c4 + c5 + c6 + c7 := by rw [h4, Nat.add_mul_mod_self_left]; clear h2 h3 hs3 hs2 hy1 hq1 h4; exact Nat.mod_eq_of_lt (by omega)
  have b0 : y + q1 < 1000000000000000000 := by rw [h2]; clear h2 h3 hs3 hy1 hq1 h4 h5; omega
  refine ⟨by clear h2 h3 hs3 hs2 hy1 hq1 h4 h5; omega, by clear h2 h3 hs3 hs2 hy1 hq1 h4 h5; omega, by clear h2 h3 hs3 hs2 hy1 hq1 h4 h5; omega, by rw [h5]; clear h2 h3 hs3 hs2 hy1 hq1 h4 h5; omega⟩
/-- The whole: how many bits are set, as package math/bits counts them. -/
theorem ones64_num {x : Nat} (hx : x < 18446744073709551616) : ∃ a b c d e f g y : Nat,
    ((x / 2) &&& 6148914691236517205) = a ∧ (x &&& 6148914691236517205) = b ∧ a + b = c ∧ c < 18446744073709551616 ∧
    ((c / 4) &&& 3689348814741910323) = d ∧ (c &&& 3689348814741910323) = e ∧ d + e = f ∧ f < 18446744073709551616 ∧
    f / 16 + f = g ∧ g < 18446744073709551616 ∧ (g &&& 1085102592571150095) = y ∧ y = pcF 8 8 x := by
  have k0 : mkF 1 32 = 6148914691236517205 := by decide
  have k1 : mkF 2 16 = 3689348814741910323 := by decide
  have k2 : mkF 4 8 = 1085102592571150095 := by decide
  have s0 := step_sum (w := 1) 32 x
  have s1 := step_sum (w := 2) 16 x
  have s2 := step_room (w := 4) (by decide) 8 x
  rw [pc_one _ _ hx, ← ev_mask, ← ev_mask, k0] at s0
  rw [← ev_mask, ← ev_mask, k1] at s1
  rw [← ev_mask, k2] at s2
  have b : ∀ (w n x : Nat), pcF w n x < 2 ^ (w * n) := by
    intro w n
    induction n with
    | zero => intro x; simp [pcF]
    | succ n ih =>
      intro x
      have h1 := ih (x / 2 ^ w)
      have h2 := Nat.lt_of_le_of_lt (popAux_le w x) (lt_pow w)
      simp only [pcF]
      rw [show w * (n + 1) = w + w * n by rw [Nat.mul_add]; omega, Nat.pow_add]
      have h3 : 2 ^ w * (pcF w n (x / 2 ^ w) + 1) ≤ 2 ^ w * 2 ^ (w * n) := Nat.mul_le_mul_left _ h1
      rw [Nat.mul_add] at h3
      omega
  have b1 := b 2 32 x
  have b2 := b 4 16 x
  refine ⟨_, _, pcF 2 32 x, _, _, pcF 4 16 x, _, _, rfl, rfl, s0, b1, rfl, rfl, s1, b2, rfl, ?_, rfl, ?_⟩
  · have h4 : pcF 4 16 x < 18446744073709551616 / 2 := by
      -- the highest field holds at most 4
      have h5 : ∀ (n x : Nat), pcF 4 (n + 1) x < 2 ^ (4 * n) * 5 := by
        intro n
        induction n with
        | zero => intro x; have := popAux_le 4 x; simp [pcF]; omega
        | succ n ih =>
          intro x
          have h1 := ih (x / 2 ^ 4)
          have h2 := popAux_le 4 x
          have e : pcF 4 (n + 1 + 1) x = Lib.popAux 4 x + 2 ^ 4 * pcF 4 (n + 1) (x / 2 ^ 4) := rfl
          rw [e, show 4 * (n + 1) = 4 + 4 * n by omega, Nat.pow_add]
          generalize 2 ^ (4 * n) = m at *
          omega
      have := h5 15 x
      simp at this ⊢
      omega
    omega
  · rw [show (2 : Nat) * 4 = 8 by decide] at s2
    exact s2
end Go.Proofs.Ytjgdfajooccalaa

/- What the operators make of numbers: comparisons with a sign and without, quotients, shifts, turns: plain functions of numbers, and that the reference's bits make the same. No walk here. -/
namespace Go.Proofs.Ytjgdfajooccalaa
open Go.RowKit
set_option linter.unusedVariables false

/-- A number of n bits, with a sign. -/
def sg (n v : Nat) : Int := if 2 ^ n ≤ 2 * v then (v : Int) - 2 ^ n else v
/-- What the comparisons ask of two numbers. -/
def cmpN (n k v u : Nat) : Bool :=
  if k = 0 then decide (v = u) else if k = 1 then !decide (v = u) else if k = 2 then decide (sg n v < sg n u) else if k = 3 then decide (v < u) else
    if k = 4 then decide (sg n u < sg n v) else if k = 5 then decide (u < v) else if k = 6 then decide (sg n v ≤ sg n u) else if k = 7 then decide (v ≤ u) else
      if k = 8 then decide (sg n u ≤ sg n v) else decide (u ≤ v)
section
variable {n v u : Nat}
theorem sg_lt (h : v < 2 ^ n) : -(2 ^ n : Int) ≤ 2 * sg n v ∧ 2 * sg n v < 2 ^ n := by
  have e : ((2 ^ n : Nat) : Int) = (2 : Int) ^ n := by norm_cast
  unfold sg
  rw [← e]
  split <;> omega
theorem sg_mod (h : v < 2 ^ n) : sg n v % 2 ^ n = v := by
  have e : ((2 ^ n : Nat) : Int) = (2 : Int) ^ n := by norm_cast
  unfold sg
  rw [← e]
  split
  · rw [show (v : Int) - ((2 ^ n : Nat) : Int) = v + ((2 ^ n : Nat) : Int) * (-1) by omega, Int.add_mul_emod_self_left, Int.emod_eq_of_lt] <;> omega
  · rw [Int.emod_eq_of_lt] <;> omega
theorem cmp_num {k : Nat} (hk : k < 10) (hn : 0 < n) (hv : v < 2 ^ n) (hu : u < 2 ^ n) : cmpL n k (bitsL n v) (bitsL n u) = cmpN n k v u := by
  have e : ((2 ^ n : Nat) : Int) = (2 : Int) ^ n := by norm_cast
  unfold cmpL
  rw [num_of hv, num_of hu, less_of hv hu, top_of hn hv, top_of hn hu]
  unfold cmpF cmpN sg
  rw [← e]
  generalize 2 ^ n = m at *
  have hs : (v == u) = decide (v = u) := rfl
  rw [hs]
  match k, hk with
  | 0, _ => rfl
  | 1, _ => rfl
  | 2, _ => by_cases h1 : m ≤ 2 * v <;> by_cases h2 : m ≤ 2 * u <;> simp [h1, h2] <;> omega
  | 3, _ => simp
  | 4, _ => by_cases h1 : m ≤ 2 * v <;> by_cases h2 : m ≤ 2 * u <;> simp [h1, h2] <;> first | omega | (rw [Bool.eq_iff_iff]; simp; done) | (rw [Bool.eq_iff_iff]; simp; omega)
  | 5, _ => simp; rw [Bool.eq_iff_iff]; simp; omega
  | 6, _ => by_cases h1 : m ≤ 2 * v <;> by_cases h2 : m ≤ 2 * u <;> simp [h1, h2] <;> first | omega | (rw [Bool.eq_iff_iff]; simp; done) | (rw [Bool.eq_iff_iff]; simp; omega)
  | 7, _ => simp; rw [Bool.eq_iff_iff]; simp; omega
  | 8, _ => by_cases h1 : m ≤ 2 * v <;> by_cases h2 : m ≤ 2 * u <;> simp [h1, h2] <;> first | omega | (rw [Bool.eq_iff_iff]; simp; done) | (rw [Bool.eq_iff_iff]; simp; omega)
  | 9, _ => simp; rw [Bool.eq_iff_iff]; simp
  | k + 10, h => omega
end
/-- The quotients: div_s, div_u, rem_s, rem_u: the number, and how it ends. -/
def quoN (n k v u : Nat) : Nat × Int :=
  if u = 0 then (0, 61) else if k = 0 then (if v = 2 ^ (n - 1) ∧ u = 2 ^ n - 1 then (0, 62) else (((sg n v).tdiv (sg n u) % 2 ^ n).toNat, 0)) else
    if k = 1 then (v / u, 0) else if k = 2 then (((sg n v).tmod (sg n u) % 2 ^ n).toNat, 0) else (v % u, 0)
section
variable {n v u : Nat}
theorem abs_num (hn : 0 < n) (hv : v < 2 ^ n) : numL (sgnL n (bitsL n v)) = (sg n v).natAbs := by
  rw [sgn_num (bitsL_len n v), num_of hv, top_of hn hv]
  unfold sg
  have e : ((2 ^ n : Nat) : Int) = (2 : Int) ^ n := by norm_cast
  rw [← e]
  generalize 2 ^ n = m at *
  by_cases h : m ≤ 2 * v
  · simp [h]; rw [Nat.mod_eq_of_lt (by omega)]; omega
  · simp [h]
theorem natAbs_mod {m : Nat} {x : Int} (h : x.natAbs ≤ m) (hm : 0 < m) (hx : x ≤ 0) : ((x % (m : Int)).toNat) = (m - x.natAbs) % m := by
  obtain ⟨y, hy⟩ : ∃ y : Nat, x = -(y : Int) := ⟨x.natAbs, by omega⟩
  subst hy
  rw [show (-(y : Int)).natAbs = y by omega] at h ⊢
  rw [show -(y : Int) = ((m - y : Nat) : Int) + (m : Int) * (-1) by omega, Int.add_mul_emod_self_left]
  omega
theorem tdiv_abs (x y : Int) : (x.tdiv y).natAbs = x.natAbs / y.natAbs := Int.natAbs_tdiv x y
theorem tmod_abs (x y : Int) : (x.tmod y).natAbs = x.natAbs % y.natAbs := Int.natAbs_tmod x y
theorem sg_neg (hv : v < 2 ^ n) : sg n v < 0 ↔ 2 ^ n ≤ 2 * v := by
  have e : ((2 ^ n : Nat) : Int) = (2 : Int) ^ n := by norm_cast
  unfold sg
  rw [← e]
  generalize 2 ^ n = m at *
  split <;> omega
theorem sg_zero (hv : v < 2 ^ n) : sg n v = 0 ↔ v = 0 := by
  have e : ((2 ^ n : Nat) : Int) = (2 : Int) ^ n := by norm_cast
  unfold sg
  rw [← e]
  generalize 2 ^ n = m at *
  split <;> omega
theorem signed_sg (hn : 0 < n) (hv : v < 2 ^ n) (hu : u < 2 ^ n) (h0 : u ≠ 0) :
    numL (signedL n (bitsL n v) (bitsL n u)).1 = ((sg n v).tdiv (sg n u) % 2 ^ n).toNat ∧ numL (signedL n (bitsL n v) (bitsL n u)).2 = ((sg n v).tmod (sg n u) % 2 ^ n).toNat := by
  have h := signed_num (bitsL_len n v) (bitsL_len n u) (by rw [num_of hu]; omega)
  rw [top_of hn hv, top_of hn hu, abs_num hn hv, abs_num hn hu, ← tdiv_abs, ← tmod_abs] at h
  have e : ((2 ^ n : Nat) : Int) = (2 : Int) ^ n := by norm_cast
  have nv := sg_neg hv
  have nu := sg_neg hu
  have zu := sg_zero hu
  have bv := sg_lt hv
  have bu := sg_lt hu
  rw [← e] at bv bu ⊢
  rw [h.1, h.2]
  clear h
  generalize sg n v = x at *
  generalize sg n u = y at *
  generalize 2 ^ n = m at *
  have hy : y ≠ 0 := fun he => h0 (zu.1 he)
  have q1 : (x.tdiv y).natAbs ≤ x.natAbs := by rw [tdiv_abs]; exact Nat.div_le_self _ _
  have q2 : (x.tmod y).natAbs ≤ x.natAbs := by rw [tmod_abs]; exact Nat.mod_le _ _
  have m0 : 0 < m := by omega
  have pos : ∀ z : Int, 0 ≤ z → z.natAbs ≤ x.natAbs → z.natAbs < m → z.natAbs = (z % (m : Int)).toNat := by
    intro z hz _ hm
    rw [Int.emod_eq_of_lt hz (by omega)]
    omega
  have xl : x.natAbs < m := by omega
  constructor
  · by_cases h1 : m ≤ 2 * v <;> by_cases h2 : m ≤ 2 * u <;> simp [h1, h2, -Int.natAbs_tdiv, -Int.natAbs_tmod]
    · exact pos _ (Int.tdiv_nonneg_of_nonpos_of_nonpos (by omega) (by omega)) q1 (by omega)
    · exact (natAbs_mod (by omega) m0 ((by have := Int.tdiv_nonneg (a := -x) (b := y) (by omega) (by omega); rw [Int.neg_tdiv] at this; omega))).symm
    · exact (natAbs_mod (by omega) m0 (Int.tdiv_nonpos_of_nonneg_of_nonpos (by omega) (by omega))).symm
    · exact pos _ (Int.tdiv_nonneg (by omega) (by omega)) q1 (by omega)
  · by_cases h1 : m ≤ 2 * v <;> simp only [h1, decide_true, decide_false, Bool.false_eq_true, if_false, if_true]
    · refine (natAbs_mod (by omega) m0 ?_).symm
      have := Int.tmod_nonneg (a := -x) y (by omega)
      rw [Int.neg_tmod] at this
      omega
    · exact pos _ (Int.tmod_nonneg y (by omega)) q2 (by omega)
end
section
variable {n v u : Nat}
theorem quo_num {k : Nat} (hk : k < 4) (hn : 0 < n) (hv : v < 2 ^ n) (hu : u < 2 ^ n) : quoL n k (bitsL n v) (bitsL n u) = quoN n k v u := by
  unfold quoL quoN
  rw [num_of hu]
  by_cases h0 : u = 0
  · rw [if_pos h0, if_pos h0]
  rw [if_neg h0, if_neg h0]
  have hs := signed_sg hn hv hu h0
  have hd := div_num (n := n) (a := bitsL n v) (b := bitsL n u) (bitsL_len n v) (bitsL_len n u) (by rw [num_of hu]; omega)
  rw [num_of hv, num_of hu] at hd
  have hl : (signedL n (bitsL n v) (bitsL n u)).1.length = n := (signedS_len (divK_len (by rw [sgnL_len, bitsL_len]) n).1 (divK_len (by rw [sgnL_len, bitsL_len]) n).2).1
  have ht := top_bit hl hn
  match k, hk with
  | 0, _ =>
    show quoT n 0 _ _ (signedL n (bitsL n v) (bitsL n u)) = _
    unfold quoT
    rw [top_of hn hv, top_of hn hu, ht, hs.1, hs.2]
    have key : (0 = 0 ∧ decide (2 ^ n ≤ 2 * v) = true ∧ decide (2 ^ n ≤ 2 * u) = true ∧ decide (2 ^ n ≤ 2 * (((sg n v).tdiv (sg n u)) % 2 ^ n).toNat) = true) ↔ (v = 2 ^ (n - 1) ∧ u = 2 ^ n - 1) := by
      have e : ((2 ^ n : Nat) : Int) = (2 : Int) ^ n := by norm_cast
      have e2 : 2 ^ n = 2 * 2 ^ (n - 1) := by rw [← Nat.pow_succ']; congr 1; omega
      simp only [decide_eq_true_eq, true_and]
      have s1 : 2 ^ n ≤ 2 * v → sg n v = (v : Int) - 2 ^ n := fun h => by unfold sg; rw [if_pos h]
      have s2 : 2 ^ n ≤ 2 * u → sg n u = (u : Int) - 2 ^ n := fun h => by unfold sg; rw [if_pos h]
      rw [← e] at s1 s2 ⊢
      rw [e2] at s1 s2 hv hu ⊢
      generalize 2 ^ (n - 1) = m at *
      clear e e2 hs hd ht hl
      constructor
      · rintro ⟨h1, h2, h3⟩
        have a1 := s1 h1
        have a2 := s2 h2
        have c1 : (sg n v).tdiv (sg n u) = (((2 * m - v) / (2 * m - u) : Nat) : Int) := by
          rw [a1, a2, show (v : Int) - ((2 * m : Nat) : Int) = -((2 * m - v : Nat) : Int) by omega, show (u : Int) - ((2 * m : Nat) : Int) = -((2 * m - u : Nat) : Int) by omega, Int.neg_tdiv, Int.tdiv_neg, Int.neg_neg]
          exact (Int.ofNat_tdiv _ _).symm
        rw [c1] at h3
        have hle : (2 * m - v) / (2 * m - u) ≤ 2 * m - v := Nat.div_le_self _ _
        rw [← Int.natCast_emod, Int.toNat_natCast, Nat.mod_eq_of_lt (by omega)] at h3
        have hv2 : v = m := by omega
        refine ⟨hv2, ?_⟩
        apply Nat.le_antisymm (by omega)
        apply Nat.le_of_not_lt
        intro hlt
        have : (2 * m - v) / (2 * m - u) ≤ (2 * m - v) / 2 := Nat.div_le_div_left (by omega) (by omega)
        omega
      · rintro ⟨rfl, rfl⟩
        have a1 := s1 (by omega)
        have a2 := s2 (by omega)
        refine ⟨by omega, by omega, ?_⟩
        rw [a1, a2, show ((2 * v - 1 : Nat) : Int) - ((2 * v : Nat) : Int) = -1 by omega, Int.tdiv_neg, Int.tdiv_one, show -((v : Int) - ((2 * v : Nat) : Int)) = v by omega, Int.emod_eq_of_lt (by omega) (by omega)]
        omega
    by_cases hc : v = 2 ^ (n - 1) ∧ u = 2 ^ n - 1
    · rw [if_pos (key.2 hc)]; simp [hc]
    · rw [if_neg (fun h => hc (key.1 h))]; simp [hc]
  | 1, _ =>
    show quoT n 1 _ _ (divK n _ _ n) = _
    unfold quoT
    simp [hd]
  | 2, _ =>
    show quoT n 2 _ _ (signedL n (bitsL n v) (bitsL n u)) = _
    unfold quoT
    simp [hs]
  | 3, _ =>
    show quoT n 3 _ _ (divK n _ _ n) = _
    unfold quoT
    simp [hd]
  | k + 4, h => omega
theorem down_num (hn : 0 < n) (hv : v < 2 ^ n) {k : Nat} (hk : k < n) : ((numL (shiftL n (bitsL n v) (-(k : Int)) ((bitsL n v).getD (n - 1) false)) : Nat) : Int) = sg n v / 2 ^ k % 2 ^ n := by
  rw [top_of hn hv]
  have e : ((2 ^ n : Nat) : Int) = (2 : Int) ^ n := by norm_cast
  have ek : ((2 ^ k : Nat) : Int) = (2 : Int) ^ k := by norm_cast
  have e2 : 2 ^ n = 2 ^ k * 2 ^ (n - k) := by rw [← Nat.pow_add]; congr 1; omega
  have pk : 0 < 2 ^ k := Nat.two_pow_pos k
  have hlt : v / 2 ^ k < 2 ^ (n - k) := Nat.div_lt_of_lt_mul (by rw [← e2]; exact hv)
  have hle : 2 ^ (n - k) ≤ 2 ^ n := Nat.pow_le_pow_right (by decide) (by omega)
  by_cases h : 2 ^ n ≤ 2 * v
  · have hs : sg n v = (v : Int) - 2 ^ n := by unfold sg; rw [if_pos h]
    rw [decide_eq_true h, num_downT (bitsL_len n v) k (by omega), num_of hv, hs, ← e, ← ek]
    have : ((v : Int) - ((2 ^ n : Nat) : Int)) / ((2 ^ k : Nat) : Int) = ((v / 2 ^ k : Nat) : Int) - ((2 ^ (n - k) : Nat) : Int) := by
      rw [e2, show (v : Int) - ((2 ^ k * 2 ^ (n - k) : Nat) : Int) = v + ((2 ^ k : Nat) : Int) * (-((2 ^ (n - k) : Nat) : Int)) by rw [Int.natCast_mul, Int.mul_neg]; omega, Int.add_mul_ediv_left _ _ (by omega)]
      rw [Int.natCast_ediv]
      exact Int.sub_eq_add_neg.symm
    rw [this]
    generalize v / 2 ^ k = d at *
    generalize 2 ^ (n - k) = m at *
    generalize 2 ^ n = N at *
    rw [show (d : Int) - (m : Int) = ((d + (N - m) : Nat) : Int) + (N : Int) * (-1) by omega, Int.add_mul_emod_self_left, Int.emod_eq_of_lt (by omega) (by omega)]
  · have hs : sg n v = (v : Int) := by unfold sg; rw [if_neg h]
    rw [decide_eq_false h, num_down (bitsL_len n v) k, num_of hv, hs, ← e, ← ek, ← Int.natCast_ediv]
    generalize v / 2 ^ k = d at *
    exact (Int.emod_eq_of_lt (by omega) (by omega)).symm
theorem up_num (hv : v < 2 ^ n) (k : Nat) : numL (shiftL n (bitsL n v) k false) = v * 2 ^ k % 2 ^ n := by rw [num_up (bitsL_len n v), num_of hv]
theorem downU_num (hv : v < 2 ^ n) (k : Nat) : numL (shiftL n (bitsL n v) (-(k : Int)) false) = v / 2 ^ k := by rw [num_down (bitsL_len n v), num_of hv]
/-- A number turned up by k places. -/
def rotN (n v k : Nat) : Nat := v * 2 ^ k % 2 ^ n + v / 2 ^ (n - k)
theorem rot_num (hn : 0 < n) (hv : v < 2 ^ n) {k : Nat} (hk : k < n) : numL (rotL n (bitsL n v) k) = rotN n v k := by rw [num_rot (bitsL_len n v) hn k hk, num_of hv]; rfl
theorem rotr_num (hn : 0 < n) (hv : v < 2 ^ n) {k : Nat} (hk : k < n) : numL (rotL n (bitsL n v) (-(k : Int))) = rotN n v ((n - k) % n) := by rw [rot_neg hn k hk]; exact rot_num hn hv (Nat.mod_lt _ hn)
/-- or of what does not meet is a sum. -/
theorem or_rot (hv : v < 2 ^ n) {k : Nat} (hk : k < n) : (v * 2 ^ k % 2 ^ n) ||| (v / 2 ^ (n - k)) = rotN n v k := by
  have e2 : 2 ^ n = 2 ^ k * 2 ^ (n - k) := by rw [← Nat.pow_add]; congr 1; omega
  refine Go.nat_join k _ _ ?_ ?_
  · rw [e2, Nat.mul_comm v, Nat.mul_mod_mul_left]; exact Nat.mul_mod_right _ _
  · exact Nat.div_lt_of_lt_mul (by rw [Nat.mul_comm, ← e2]; exact hv)
end
/-- The arithmetic: add, sub, mul, div_s, div_u, rem_s, rem_u, and, or, xor, shl, shr_s, shr_u, rotl, rotr. -/
def arN (n k v u : Nat) : Nat × Int :=
  match k with
  | 0 => ((v + u) % 2 ^ n, 0)
  | 1 => ((v + (2 ^ n - u)) % 2 ^ n, 0)
  | 2 => (v * u % 2 ^ n, 0)
  | 3 => quoN n 0 v u
  | 4 => quoN n 1 v u
  | 5 => quoN n 2 v u
  | 6 => quoN n 3 v u
  | 7 => ((v &&& u) % 2 ^ n, 0)
  | 8 => ((v ||| u) % 2 ^ n, 0)
  | 9 => ((v ^^^ u) % 2 ^ n, 0)
  | 10 => (v * 2 ^ (u % n) % 2 ^ n, 0)
  | 11 => ((sg n v / 2 ^ (u % n) % 2 ^ n).toNat, 0)
  | 12 => (v / 2 ^ (u % n), 0)
  | 13 => (rotN n v (u % n), 0)
  | _ => (rotN n v ((n - u % n) % n), 0)
/-- What an instruction makes of two numbers: the comparisons from cb on, the arithmetic from ab on. -/
def twoN (n cb ab op v u : Nat) : Nat × Int :=
  if cb ≤ op ∧ op ≤ cb + 9 then ((cmpN n (op - cb) v u).toNat, 0) else if ab ≤ op ∧ op ≤ ab + 14 then arN n (op - ab) v u else (0, 9)
theorem mod_toNat_lt (x : Int) (n : Nat) : (x % 2 ^ n).toNat < 2 ^ n := by
  have e : ((2 ^ n : Nat) : Int) = (2 : Int) ^ n := by norm_cast
  have p := Nat.two_pow_pos n
  rw [← e]
  have h1 := Int.emod_nonneg x (b := ((2 ^ n : Nat) : Int)) (by omega)
  have h2 := Int.emod_lt_of_pos x (b := ((2 ^ n : Nat) : Int)) (by omega)
  omega
theorem quoN_lt {n k v u : Nat} (hv : v < 2 ^ n) (hu : u < 2 ^ n) : (quoN n k v u).1 < 2 ^ n := by
  have p := Nat.two_pow_pos n
  unfold quoN
  split
  · exact p
  split
  · split
    · exact p
    · exact mod_toNat_lt _ _
  split
  · exact Nat.lt_of_le_of_lt (Nat.div_le_self _ _) hv
  split
  · exact mod_toNat_lt _ _
  · exact Nat.lt_of_le_of_lt (Nat.mod_le _ _) hv
theorem rotN_lt {n v k : Nat} (hn : 0 < n) (hv : v < 2 ^ n) (hk : k < n) : rotN n v k < 2 ^ n := by
  rw [← rot_num hn hv hk]
  have h := numL_lt (rotL n (bitsL n v) k)
  rwa [rotL_len] at h
theorem arN_lt {n k v u : Nat} (hn : 0 < n) (hv : v < 2 ^ n) (hu : u < 2 ^ n) : (arN n k v u).1 < 2 ^ n := by
  have p := Nat.two_pow_pos n
  have hm : ∀ x, x % 2 ^ n < 2 ^ n := fun x => Nat.mod_lt _ p
  unfold arN
  split
  · exact hm _
  · exact hm _
  · exact hm _
  · exact quoN_lt hv hu
  · exact quoN_lt hv hu
  · exact quoN_lt hv hu
  · exact quoN_lt hv hu
  · exact hm _
  · exact hm _
  · exact hm _
  · exact hm _
  · exact mod_toNat_lt _ _
  · exact Nat.lt_of_le_of_lt (Nat.div_le_self _ _) hv
  · exact rotN_lt hn hv (Nat.mod_lt _ hn)
  · exact rotN_lt hn hv (Nat.mod_lt _ hn)
theorem twoN_lt (n cb ab op v u : Nat) (hv : v < 2 ^ n) (hu : u < 2 ^ n) (hn : 0 < n := by decide) : (twoN n cb ab op v u).1 < 2 ^ n := by
  unfold twoN
  split
  · show Bool.toNat _ < _
    have : 2 ^ 1 ≤ 2 ^ n := Nat.pow_le_pow_right (by decide) hn
    cases cmpN n (op - cb) v u <;> simp <;> omega
  split
  · exact arN_lt hn hv hu
  · exact Nat.two_pow_pos n
end Go.Proofs.Ytjgdfajooccalaa
