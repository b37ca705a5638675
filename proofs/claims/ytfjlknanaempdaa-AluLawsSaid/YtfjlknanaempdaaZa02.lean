/- The results of the reference as numbers: sums, bits, shifts, signs, comparisons. No walk here. -/
import Derived.Test.YtfjlknanaempdaaZa01
import Derived.Laws.BitsAllLaws
import Derived.Lib.AppendStr
import Derived.Deep.RegionHeld3
import Derived.Deep.QuietTactic
import Derived.Deep.CutBlock
import Derived.Deep.DeepCutAuto
import Derived.WalkLawsBesides
import Derived.BigQuiet
import Derived.LoopTactic
import Derived.Deep.DeepMust
namespace Go.Proofs.Ytfjlknanaempdaa
open Go.RowKit
set_option linter.unusedVariables false

section
variable {n : Nat} {a b : List Bool}
theorem add_num (ha : a.length = n) (hb : b.length = n) : numL (addL a b false) = (numL a + numL b) % 2 ^ n := by
  rw [numL_add _ _ _ (by omega), ha]
  simp
theorem sub_num (ha : a.length = n) (hb : b.length = n) : numL (addL a (notL b) true) = (numL a + (2 ^ n - numL b)) % 2 ^ n := by
  have h := numL_not b
  rw [hb] at h
  rw [numL_add _ _ _ (by rw [notL_len]; omega), ha]
  congr 1
  simp
  omega
theorem mul_num (ha : a.length = n) (hb : b.length = n) : numL (timesK n a b n) = numL a * numL b % 2 ^ n := by
  have h := timesK_num (b := b) ha n (by omega)
  rwa [List.take_of_length_le (by omega)] at h
theorem sgn_num (ha : a.length = n) : numL (sgnL n a) = if a.getD (n - 1) false then (2 ^ n - numL a) % 2 ^ n else numL a := by
  unfold sgnL
  split
  · rw [numL_turn, ha]
  · rfl
theorem sgn_pos (ha : a.length = n) (h : 0 < numL a) : 0 < numL (sgnL n a) := by
  have h1 := numL_lt a
  rw [ha] at h1
  rw [sgn_num ha]
  split
  · rw [Nat.mod_eq_of_lt (by omega)]; omega
  · exact h
theorem signed_num (ha : a.length = n) (hb : b.length = n) (hB : 0 < numL b) :
    numL (signedL n a b).1 = (if a.getD (n - 1) false != b.getD (n - 1) false then (2 ^ n - numL (sgnL n a) / numL (sgnL n b)) % 2 ^ n else numL (sgnL n a) / numL (sgnL n b)) ∧
    numL (signedL n a b).2 = (if a.getD (n - 1) false then (2 ^ n - numL (sgnL n a) % numL (sgnL n b)) % 2 ^ n else numL (sgnL n a) % numL (sgnL n b)) := by
  have h1 := sgnL_len n a
  have h2 := sgnL_len n b
  have hd := div_num (n := n) (a := sgnL n a) (b := sgnL n b) (by omega) (by omega) (sgn_pos hb hB)
  have hl := divK_len (n := n) (a := sgnL n a) (b := sgnL n b) (by omega) n
  unfold signedL
  obtain ⟨⟨p, r⟩, hst⟩ : ∃ st, st = divK n (sgnL n a) (sgnL n b) n := ⟨_, rfl⟩
  rw [← hst] at hd hl ⊢
  have hp : p.length = n := hl.1
  have hr : r.length = n := hl.2
  have dp : numL p = _ := hd.1
  have dr : numL r = _ := hd.2
  generalize a.getD (n - 1) false = x
  generalize b.getD (n - 1) false = y
  unfold signedS
  cases x <;> cases y <;> simp [numL_turn, hp, hr, dp, dr]
theorem bit_and (x y i : Nat) : ((x &&& y) / 2 ^ i % 2 == 1) = ((x / 2 ^ i % 2 == 1) && (y / 2 ^ i % 2 == 1)) := by
  have h := Nat.testBit_and x y i
  rw [Nat.testBit_eq_decide_div_mod_eq, Nat.testBit_eq_decide_div_mod_eq, Nat.testBit_eq_decide_div_mod_eq] at h
  exact h
theorem bit_or (x y i : Nat) : ((x ||| y) / 2 ^ i % 2 == 1) = ((x / 2 ^ i % 2 == 1) || (y / 2 ^ i % 2 == 1)) := by
  have h := Nat.testBit_or x y i
  rw [Nat.testBit_eq_decide_div_mod_eq, Nat.testBit_eq_decide_div_mod_eq, Nat.testBit_eq_decide_div_mod_eq] at h
  exact h
theorem bit_xor (x y i : Nat) : ((x ^^^ y) / 2 ^ i % 2 == 1) = ((x / 2 ^ i % 2 == 1) != (y / 2 ^ i % 2 == 1)) := by
  have h := Nat.testBit_xor x y i
  rw [Nat.testBit_eq_decide_div_mod_eq, Nat.testBit_eq_decide_div_mod_eq, Nat.testBit_eq_decide_div_mod_eq] at h
  exact h
theorem bop_getD {k i : Nat} (ha : a.length = n) (hb : b.length = n) (hi : i < n) : (bopL k a b).getD i false = bop k (numL a / 2 ^ i % 2 == 1) (numL b / 2 ^ i % 2 == 1) := by
  rw [numL_get a i (by omega), numL_get b i (by omega)]
  unfold bopL
  rw [List.getD_eq_getElem?_getD, List.getElem?_zipWith, List.getElem?_eq_getElem (by omega : i < a.length), List.getElem?_eq_getElem (by omega : i < b.length), List.getD_eq_getElem?_getD, List.getD_eq_getElem?_getD, List.getElem?_eq_getElem (by omega : i < a.length), List.getElem?_eq_getElem (by omega : i < b.length)]
  rfl
theorem and_num (ha : a.length = n) (hb : b.length = n) : numL (bopL 0 a b) = (numL a &&& numL b) % 2 ^ n :=
  numL_ext (by rw [bopL_len (by omega), ha]) fun i hi => by rw [bop_getD ha hb hi, bit_and]; rfl
theorem or_num (ha : a.length = n) (hb : b.length = n) : numL (bopL 1 a b) = (numL a ||| numL b) % 2 ^ n :=
  numL_ext (by rw [bopL_len (by omega), ha]) fun i hi => by rw [bop_getD ha hb hi, bit_or]; rfl
theorem xor_num (ha : a.length = n) (hb : b.length = n) : numL (bopL 2 a b) = (numL a ^^^ numL b) % 2 ^ n :=
  numL_ext (by rw [bopL_len (by omega), ha]) fun i hi => by rw [bop_getD ha hb hi, bit_xor]; rfl
end
/-- A number below 2^n is what its n bits make. -/
theorem num_of {n v : Nat} (h : v < 2 ^ n) : numL (bitsL n v) = v := by rw [num_bits, Nat.mod_eq_of_lt h]
theorem top_of {n v : Nat} (hn : 0 < n) (h : v < 2 ^ n) : (bitsL n v).getD (n - 1) false = decide (2 ^ n ≤ 2 * v) := by rw [top_bit (bitsL_len n v) hn, num_of h]
theorem less_of {n v u : Nat} (hv : v < 2 ^ n) (hu : u < 2 ^ n) : lessL (bitsL n v) (bitsL n u) = decide (v < u) := by unfold lessL; rw [num_of hv, num_of hu]
end Go.Proofs.Ytfjlknanaempdaa

/- What the operators make of numbers: comparisons with a sign and without, quotients, shifts, turns: plain functions of numbers, and that the reference's bits make the same. No walk here. -/
namespace Go.Proofs.Ytfjlknanaempdaa
open Go.RowKit
set_option linter.unusedVariables false

/-- A number of n bits, with a sign. -/
def sg (n v : Nat) : Int := if 2 ^ n ≤ 2 * v then (v : Int) - 2 ^ n else v
/-- What the comparisons ask of two numbers. -/
def cmpN (n k v u : Nat) : Bool :=
  if k = 0 then decide (v = u) else if k = 1 then !decide (v = u) else if k = 2 then decide (sg n v < sg n u) else if k = 3 then decide (v < u) else
    if k = 4 then decide (sg n u < sg n v) else if k = 5 then decide (u < v) else if k = 6 then decide (sg n v ≤ sg n u) else if k = 7 then decide (v ≤ u) else
      if k = 8 then decide (sg n u ≤ sg n v) else decide (u ≤ v)
section
variable {n v u : Nat}
theorem sg_lt (h : v < 2 ^ n) : -(2 ^ n : Int) ≤ 2 * sg n v ∧ 2 * sg n v < 2 ^ n := by
  have e : ((2 ^ n : Nat) : Int) = (2 : Int) ^ n := by norm_cast
  unfold sg
  rw [← e]
  split <;> omega
theorem sg_mod (h : v < 2 ^ n) : sg n v % 2 ^ n = v := by
  have e : ((2 ^ n : Nat) : Int) = (2 : Int) ^ n := by norm_cast
  unfold sg
  rw [← e]
  split
  · rw [show (v : Int) - ((2 ^ n : Nat) : Int) = v + ((2 ^ n : Nat) : Int) * (-1) by omega, Int.add_mul_emod_self_left, Int.emod_eq_of_lt] <;> omega
  · rw [Int.emod_eq_of_lt] <;> omega
theorem cmp_num {k : Nat} (hk : k < 10) (hn : 0 < n) (hv : v < 2 ^ n) (hu : u < 2 ^ n) : cmpL n k (bitsL n v) (bitsL n u) = cmpN n k v u := by
  have e : ((2 ^ n : Nat) : Int) = (2 : Int) ^ n := by norm_cast
  unfold cmpL
  rw [num_of hv, num_of hu, less_of hv hu, top_of hn hv, top_of hn hu]
  unfold cmpF cmpN sg
  rw [← e]
  generalize 2 ^ n = m at *
  have hs : (v == u) = decide (v = u) := rfl
  rw [hs]
  match k, hk with
  | 0, _ => rfl
  | 1, _ => rfl
  | 2, _ => by_cases h1 : m ≤ 2 * v <;> by_cases h2 : m ≤ 2 * u <;> simp [h1, h2] <;> omega
  | 3, _ => simp
  | 4, _ => by_cases h1 : m ≤ 2 * v <;> by_cases h2 : m ≤ 2 * u <;> simp [h1, h2] <;> first | omega | (rw [Bool.eq_iff_iff]; simp; done) | (rw [Bool.eq_iff_iff]; simp; omega)
  | 5, _ => simp; rw [Bool.eq_iff_iff]; simp; omega
  | 6, _ => by_cases h1 : m ≤ 2 * v <;> by_cases h2 : m ≤ 2 * u <;> simp [h1, h2] <;> first | omega | (rw [Bool.eq_iff_iff]; simp; done) | (rw [Bool.eq_iff_iff]; simp; omega)
  | 7, _ => simp; rw [Bool.eq_iff_iff]; simp; omega
  | 8, _ => by_cases h1 : m ≤ 2 * v <;> by_cases h2 : m ≤ 2 * u <;> simp [h1, h2] <;> first | omega | (rw [Bool.eq_iff_iff]; simp; done) | (rw [Bool.eq_iff_iff]; simp; omega)
  | 9, _ => simp; rw [Bool.eq_iff_iff]; simp
  | k + 10, h => omega
end
/-- The quotients: div_s, div_u, rem_s, rem_u: the number, and how it ends. -/
def quoN (n k v u : Nat) : Nat × Int :=
  if u = 0 then (0, 61) else if k = 0 then (if v = 2 ^ (n - 1) ∧ u = 2 ^ n - 1 then (0, 62) else (((sg n v).tdiv (sg n u) % 2 ^ n).toNat, 0)) else
    if k = 1 then (v / u, 0) else if k = 2 then (((sg n v).tmod (sg n u) % 2 ^ n).toNat, 0) else (v % u, 0)
section
variable {n v u : Nat}
theorem abs_num (hn : 0 < n) (hv : v < 2 ^ n) : numL (sgnL n (bitsL n v)) = (sg n v).natAbs := by
  rw [sgn_num (bitsL_len n v), num_of hv, top_of hn hv]
  unfold sg
  have e : ((2 ^ n : Nat) : Int) = (2 : Int) ^ n := by norm_cast
  rw [← e]
  generalize 2 ^ n = m at *
  by_cases h : m ≤ 2 * v
  · simp [h]; rw [Nat.mod_eq_of_lt (by omega)]; omega
  · simp [h]
theorem natAbs_mod {m : Nat} {x : Int} (h : x.natAbs ≤ m) (hm : 0 < m) (hx : x ≤ 0) : ((x % (m : Int)).toNat) = (m - x.natAbs) % m := by
  obtain ⟨y, hy⟩ : ∃ y : Nat, x = -(y : Int) := ⟨x.natAbs, by omega⟩
  subst hy
  rw [show (-(y : Int)).natAbs = y by omega] at h ⊢
  rw [show -(y : Int) = ((m - y : Nat) : Int) + (m : Int) * (-1) by omega, Int.add_mul_emod_self_left]
  omega
theorem tdiv_abs (x y : Int) : (x.tdiv y).natAbs = x.natAbs / y.natAbs := Int.natAbs_tdiv x y
theorem tmod_abs (x y : Int) : (x.tmod y).natAbs = x.natAbs % y.natAbs := Int.natAbs_tmod x y
theorem sg_neg (hv : v < 2 ^ n) : sg n v < 0 ↔ 2 ^ n ≤ 2 * v := by
  have e : ((2 ^ n : Nat) : Int) = (2 : Int) ^ n := by norm_cast
  unfold sg
  rw [← e]
  generalize 2 ^ n = m at *
  split <;> omega
theorem sg_zero (hv : v < 2 ^ n) : sg n v = 0 ↔ v = 0 := by
  have e : ((2 ^ n : Nat) : Int) = (2 : Int) ^ n := by norm_cast
  unfold sg
  rw [← e]
  generalize 2 ^ n = m at *
  split <;> omega
theorem signed_sg (hn : 0 < n) (hv : v < 2 ^ n) (hu : u < 2 ^ n) (h0 : u ≠ 0) :
    numL (signedL n (bitsL n v) (bitsL n u)).1 = ((sg n v).tdiv (sg n u) % 2 ^ n).toNat ∧ numL (signedL n (bitsL n v) (bitsL n u)).2 = ((sg n v).tmod (sg n u) % 2 ^ n).toNat := by
  have h := signed_num (bitsL_len n v) (bitsL_len n u) (by rw [num_of hu]; omega)
  rw [top_of hn hv, top_of hn hu, abs_num hn hv, abs_num hn hu, ← tdiv_abs, ← tmod_abs] at h
  have e : ((2 ^ n : Nat) : Int) = (2 : Int) ^ n := by norm_cast
  have nv := sg_neg hv
  have nu := sg_neg hu
  have zu := sg_zero hu
  have bv := sg_lt hv
  have bu := sg_lt hu
  rw [← e] at bv bu ⊢
  rw [h.1, h.2]
  clear h
  generalize sg n v = x at *
  generalize sg n u = y at *
  generalize 2 ^ n = m at *
  have hy : y ≠ 0 := fun he => h0 (zu.1 he)
  have q1 : (x.tdiv y).natAbs ≤ x.natAbs := by rw [tdiv_abs]; exact Nat.div_le_self _ _
  have q2 : (x.tmod y).natAbs ≤ x.natAbs := by rw [tmod_abs]; exact Nat.mod_le _ _
  have m0 : 0 < m := by omega
  have pos : ∀ z : Int, 0 ≤ z → z.natAbs ≤ x.natAbs → z.natAbs < m → z.natAbs = (z % (m : Int)).toNat := by
    intro z hz _ hm
    rw [Int.emod_eq_of_lt hz (by omega)]
    omega
  have xl : x.natAbs < m := by omega
  constructor
  · by_cases h1 : m ≤ 2 * v <;> by_cases h2 : m ≤ 2 * u <;> simp [h1, h2, -Int.natAbs_tdiv, -Int.natAbs_tmod]
    · exact pos _ (Int.tdiv_nonneg_of_nonpos_of_nonpos (by omega) (by omega)) q1 (by omega)
    · exact (natAbs_mod (by omega) m0 ((by have := Int.tdiv_nonneg (a := -x) (b := y) (by omega) (by omega); rw [Int.neg_tdiv] at this; omega))).symm
    · exact (natAbs_mod (by omega) m0 (Int.tdiv_nonpos_of_nonneg_of_nonpos (by omega) (by omega))).symm
    · exact pos _ (Int.tdiv_nonneg (by omega) (by omega)) q1 (by omega)
  · by_cases h1 : m ≤ 2 * v <;> simp only [h1, decide_true, decide_false, Bool.false_eq_true, if_false, if_true]
    · refine (natAbs_mod (by omega) m0 ?_).symm
      have := Int.tmod_nonneg (a := -x) y (by omega)
      rw [Int.neg_tmod] at this
      omega
    · exact pos _ (Int.tmod_nonneg y (by omega)) q2 (by omega)
end
section
variable {n v u : Nat}
theorem quo_num {k : Nat} (hk : k < 4) (hn : 0 < n) (hv : v < 2 ^ n) (hu : u < 2 ^ n) : quoL n k (bitsL n v) (bitsL n u) = quoN n k v u := by
  unfold quoL quoN
  rw [num_of hu]
  by_cases h0 : u = 0
  · rw [if_pos h0, if_pos h0]
  rw [if_neg h0, if_neg h0]
  have hs := signed_sg hn hv hu h0
  have hd := div_num (n := n) (a := bitsL n v) (b := bitsL n u) (bitsL_len n v) (bitsL_len n u) (by rw [num_of hu]; omega)
  rw [num_of hv, num_of hu] at hd
  have hl : (signedL n (bitsL n v) (bitsL n u)).1.length = n := (signedS_len (divK_len (by rw [sgnL_len, bitsL_len]) n).1 (divK_len (by rw [sgnL_len, bitsL_len]) n).2).1
  have ht := top_bit hl hn
  match k, hk with
  | 0, _ =>
    show quoT n 0 _ _ (signedL n (bitsL n v) (bitsL n u)) = _
    unfold quoT
    rw [top_of hn hv, top_of hn hu, ht, hs.1, hs.2]
    have key : (0 = 0 ∧ decide (2 ^ n ≤ 2 * v) = true ∧ decide (2 ^ n ≤ 2 * u) = true ∧ decide (2 ^ n ≤ 2 * (((sg n v).tdiv (sg n u)) % 2 ^ n).toNat) = true) ↔ (v = 2 ^ (n - 1) ∧ u = 2 ^ n - 1) := by
      have e : ((2 ^ n : Nat) : Int) = (2 : Int) ^ n := by norm_cast
      have e2 : 2 ^ n = 2 * 2 ^ (n - 1) := by rw [← Nat.pow_succ']; congr 1; omega
      simp only [decide_eq_true_eq, true_and]
      have s1 : 2 ^ n ≤ 2 * v → sg n v = (v : Int) - 2 ^ n := fun h => by unfold sg; rw [if_pos h]
      have s2 : 2 ^ n ≤ 2 * u → sg n u = (u : Int) - 2 ^ n := fun h => by unfold sg; rw [if_pos h]
      rw [← e] at s1 s2 ⊢
      rw [e2] at s1 s2 hv hu ⊢
      generalize 2 ^ (n - 1) = m at *
      clear e e2 hs hd ht hl
      constructor
      · rintro ⟨h1, h2, h3⟩
        have a1 := s1 h1
        have a2 := s2 h2
        have c1 : (sg n v).tdiv (sg n u) = (((2 * m - v) / (2 * m - u) : Nat) : Int) := by
          rw [a1, a2, show (v : Int) - ((2 * m : Nat) : Int) = -((2 * m - v : Nat) : Int) by omega, show (u : Int) - ((2 * m : Nat) : Int) = -((2 * m - u : Nat) : Int) by omega, Int.neg_tdiv, Int.tdiv_neg, Int.neg_neg]
          exact (Int.ofNat_tdiv _ _).symm
        rw [c1] at h3
        have hle : (2 * m - v) / (2 * m - u) ≤ 2 * m - v := Nat.div_le_self _ _
        rw [← Int.natCast_emod, Int.toNat_natCast, Nat.mod_eq_of_lt (by omega)] at h3
        have hv2 : v = m := by omega
        refine ⟨hv2, ?_⟩
        apply Nat.le_antisymm (by omega)
        apply Nat.le_of_not_lt
        intro hlt
        have : (2 * m - v) / (2 * m - u) ≤ (2 * m - v) / 2 := Nat.div_le_div_left (by omega) (by omega)
        omega
      · rintro ⟨rfl, rfl⟩
        have a1 := s1 (by omega)
        have a2 := s2 (by omega)
        refine ⟨by omega, by omega, ?_⟩
        rw [a1, a2, show ((2 * v - 1 : Nat) : Int) - ((2 * v : Nat) : Int) = -1 by omega, Int.tdiv_neg, Int.tdiv_one, show -((v : Int) - ((2 * v : Nat) : Int)) = v by omega, Int.emod_eq_of_lt (by omega) (by omega)]
        omega
    by_cases hc : v = 2 ^ (n - 1) ∧ u = 2 ^ n - 1
    · rw [if_pos (key.2 hc)]; simp [hc]
    · rw [if_neg (fun h => hc (key.1 h))]; simp [hc]
  | 1, _ =>
    show quoT n 1 _ _ (divK n _ _ n) = _
    unfold quoT
    simp [hd]
  | 2, _ =>
    show quoT n 2 _ _ (signedL n (bitsL n v) (bitsL n u)) = _
    unfold quoT
    simp [hs]
  | 3, _ =>
    show quoT n 3 _ _ (divK n _ _ n) = _
    unfold quoT
    simp [hd]
  | k + 4, h => omega
theorem down_num (hn : 0 < n) (hv : v < 2 ^ n) {k : Nat} (hk : k < n) : ((numL (shiftL n (bitsL n v) (-(k : Int)) ((bitsL n v).getD (n - 1) false)) : Nat) : Int) = sg n v / 2 ^ k % 2 ^ n := by
  rw [top_of hn hv]
  have e : ((2 ^ n : Nat) : Int) = (2 : Int) ^ n := by norm_cast
  have ek : ((2 ^ k : Nat) : Int) = (2 : Int) ^ k := by norm_cast
  have e2 : 2 ^ n = 2 ^ k * 2 ^ (n - k) := by rw [← Nat.pow_add]; congr 1; omega
  have pk : 0 < 2 ^ k := Nat.two_pow_pos k
  have hlt : v / 2 ^ k < 2 ^ (n - k) := Nat.div_lt_of_lt_mul (by rw [← e2]; exact hv)
  have hle : 2 ^ (n - k) ≤ 2 ^ n := Nat.pow_le_pow_right (by decide) (by omega)
  by_cases h : 2 ^ n ≤ 2 * v
  · have hs : sg n v = (v : Int) - 2 ^ n := by unfold sg; rw [if_pos h]
    rw [decide_eq_true h, num_downT (bitsL_len n v) k (by omega), num_of hv, hs, ← e, ← ek]
    have : ((v : Int) - ((2 ^ n : Nat) : Int)) / ((2 ^ k : Nat) : Int) = ((v / 2 ^ k : Nat) : Int) - ((2 ^ (n - k) : Nat) : Int) := by
      rw [e2, show (v : Int) - ((2 ^ k * 2 ^ (n - k) : Nat) : Int) = v + ((2 ^ k : Nat) : Int) * (-((2 ^ (n - k) : Nat) : Int)) by rw [Int.natCast_mul, Int.mul_neg]; omega, Int.add_mul_ediv_left _ _ (by omega)]
      rw [Int.natCast_ediv]
      exact Int.sub_eq_add_neg.symm
    rw [this]
    generalize v / 2 ^ k = d at *
    generalize 2 ^ (n - k) = m at *
    generalize 2 ^ n = N at *
    rw [show (d : Int) - (m : Int) = ((d + (N - m) : Nat) : Int) + (N : Int) * (-1) by omega, Int.add_mul_emod_self_left, Int.emod_eq_of_lt (by omega) (by omega)]
  · have hs : sg n v = (v : Int) := by unfold sg; rw [if_neg h]
    rw [decide_eq_false h, num_down (bitsL_len n v) k, num_of hv, hs, ← e, ← ek, ← Int.natCast_ediv]
    generalize v / 2 ^ k = d at *
    exact (Int.emod_eq_of_lt (by omega) (by omega)).symm
theorem up_num (hv : v < 2 ^ n) (k : Nat) : numL (shiftL n (bitsL n v) k false) = v * 2 ^ k % 2 ^ n := by rw [num_up (bitsL_len n v), num_of hv]
theorem downU_num (hv : v < 2 ^ n) (k : Nat) : numL (shiftL n (bitsL n v) (-(k : Int)) false) = v / 2 ^ k := by rw [num_down (bitsL_len n v), num_of hv]
/-- A number turned up by k places. -/
def rotN (n v k : Nat) : Nat := v * 2 ^ k % 2 ^ n + v / 2 ^ (n - k)
theorem rot_num (hn : 0 < n) (hv : v < 2 ^ n) {k : Nat} (hk : k < n) : numL (rotL n (bitsL n v) k) = rotN n v k := by rw [num_rot (bitsL_len n v) hn k hk, num_of hv]; rfl
theorem rotr_num (hn : 0 < n) (hv : v < 2 ^ n) {k : Nat} (hk : k < n) : numL (rotL n (bitsL n v) (-(k : Int))) = rotN n v ((n - k) % n) := by rw [rot_neg hn k hk]; exact rot_num hn hv (Nat.mod_lt _ hn)
/-- or of what does not meet is a sum. -/
theorem or_rot (hv : v < 2 ^ n) {k : Nat} (hk : k < n) : (v * 2 ^ k % 2 ^ n) ||| (v / 2 ^ (n - k)) = rotN n v k := by
  have e2 : 2 ^ n = 2 ^ k * 2 ^ (n - k) := by rw [← Nat.pow_add]; congr 1; omega
  refine Go.nat_join k _ _ ?_ ?_
  · rw [e2, Nat.mul_comm v, Nat.mul_mod_mul_left]; exact Nat.mul_mod_right _ _
  · exact Nat.div_lt_of_lt_mul (by rw [Nat.mul_comm, ← e2]; exact hv)
end
/-- The arithmetic: add, sub, mul, div_s, div_u, rem_s, rem_u, and, or, xor, shl, shr_s, shr_u, rotl, rotr. -/
def arN (n k v u : Nat) : Nat × Int :=
  match k with
  | 0 => ((v + u) % 2 ^ n, 0)
  | 1 => ((v + (2 ^ n - u)) % 2 ^ n, 0)
  | 2 => (v * u % 2 ^ n, 0)
  | 3 => quoN n 0 v u
  | 4 => quoN n 1 v u
  | 5 => quoN n 2 v u
  | 6 => quoN n 3 v u
  | 7 => ((v &&& u) % 2 ^ n, 0)
  | 8 => ((v ||| u) % 2 ^ n, 0)
  | 9 => ((v ^^^ u) % 2 ^ n, 0)
  | 10 => (v * 2 ^ (u % n) % 2 ^ n, 0)
  | 11 => ((sg n v / 2 ^ (u % n) % 2 ^ n).toNat, 0)
  | 12 => (v / 2 ^ (u % n), 0)
  | 13 => (rotN n v (u % n), 0)
  | _ => (rotN n v ((n - u % n) % n), 0)
/-- What an instruction makes of two numbers: the comparisons from cb on, the arithmetic from ab on. -/
def twoN (n cb ab op v u : Nat) : Nat × Int :=
  if cb ≤ op ∧ op ≤ cb + 9 then ((cmpN n (op - cb) v u).toNat, 0) else if ab ≤ op ∧ op ≤ ab + 14 then arN n (op - ab) v u else (0, 9)
theorem mod_toNat_lt (x : Int) (n : Nat) : (x % 2 ^ n).toNat < 2 ^ n := by
  have e : ((2 ^ n : Nat) : Int) = (2 : Int) ^ n := by norm_cast
  have p := Nat.two_pow_pos n
  rw [← e]
  have h1 := Int.emod_nonneg x (b := ((2 ^ n : Nat) : Int)) (by omega)
  have h2 := Int.emod_lt_of_pos x (b := ((2 ^ n : Nat) : Int)) (by omega)
  omega
theorem quoN_lt {n k v u : Nat} (hv : v < 2 ^ n) (hu : u < 2 ^ n) : (quoN n k v u).1 < 2 ^ n := by
  have p := Nat.two_pow_pos n
  unfold quoN
  split
  · exact p
  split
  · split
    · exact p
    · exact mod_toNat_lt _ _
  split
  · exact Nat.lt_of_le_of_lt (Nat.div_le_self _ _) hv
  split
  · exact mod_toNat_lt _ _
  · exact Nat.lt_of_le_of_lt (Nat.mod_le _ _) hv
theorem rotN_lt {n v k : Nat} (hn : 0 < n) (hv : v < 2 ^ n) (hk : k < n) : rotN n v k < 2 ^ n := by
  rw [← rot_num hn hv hk]
  have h := numL_lt (rotL n (bitsL n v) k)
  rwa [rotL_len] at h
theorem arN_lt {n k v u : Nat} (hn : 0 < n) (hv : v < 2 ^ n) (hu : u < 2 ^ n) : (arN n k v u).1 < 2 ^ n := by
  have p := Nat.two_pow_pos n
  have hm : ∀ x, x % 2 ^ n < 2 ^ n := fun x => Nat.mod_lt _ p
  unfold arN
  split
  · exact hm _
  · exact hm _
  · exact hm _
  · exact quoN_lt hv hu
  · exact quoN_lt hv hu
  · exact quoN_lt hv hu
  · exact quoN_lt hv hu
  · exact hm _
  · exact hm _
  · exact hm _
  · exact hm _
  · exact mod_toNat_lt _ _
  · exact Nat.lt_of_le_of_lt (Nat.div_le_self _ _) hv
  · exact rotN_lt hn hv (Nat.mod_lt _ hn)
  · exact rotN_lt hn hv (Nat.mod_lt _ hn)
theorem twoN_lt (n cb ab op v u : Nat) (hv : v < 2 ^ n) (hu : u < 2 ^ n) (hn : 0 < n := by decide) : (twoN n cb ab op v u).1 < 2 ^ n := by
  unfold twoN
  split
  · show Bool.toNat _ < _
    have : 2 ^ 1 ≤ 2 ^ n := Nat.pow_le_pow_right (by decide) hn
    cases cmpN n (op - cb) v u <;> simp <;> omega
  split
  · exact arN_lt hn hv hu
  · exact Nat.two_pow_pos n
end Go.Proofs.Ytfjlknanaempdaa

/- Rows of bytes of the call's own, as lists of bytes: append of a new block, of a string, of what lies somewhere; string(b). -/
namespace Go.Proofs.Ytfjlknanaempdaa
set_option linter.unusedVariables false
open Go.RowKit

/-- A row of the call's own that reads as these bytes. -/
def Row (w : World) (base : Nat) (v : Value) (xs : List UInt8) : Prop := w.ownsRow base 5 1 v xs.length (cells (nums xs))
theorem Row.nil (w : World) (base : Nat) : Row w base (.slice none 0 0) [] := World.ownsRow_nil w base _ 1
theorem Row.later {w w' : World} {base : Nat} {v : Value} {xs : List UInt8} (h : Row w base v xs) (hb : Below w.heap.size w w') : Row w' base v xs :=
  World.ownsRow.kept h (gb_of_below none hb) (by cases v.ownBlock with
    | none => exact .inl rfl
    | some k => exact .inr (by simp))
theorem Row.drew {w : World} {base : Nat} {v : Value} {xs : List UInt8} (h : Row w base v xs) : Row w.drew base v xs := h
theorem Row.alloc {w : World} {base : Nat} {v : Value} {xs : List UInt8} (h : Row w base v xs) (o : Obj) : Row (w.alloc o) base v xs := World.ownsRow.alloc h o
theorem Row.mono {w : World} {base base' : Nat} {v : Value} {xs : List UInt8} (h : Row w base v xs) (hb : base' ≤ base) : Row w base' v xs := by
  obtain ⟨h1, h2⟩ := h
  refine ⟨h1, ?_⟩
  rcases h2 with h2 | ⟨g, cap, cur, e, hg, r⟩
  · exact .inl h2
  · exact .inr ⟨g, cap, cur, e, Nat.le_trans hb hg, r⟩
theorem Row.below {w w' : World} {base : Nat} {v : Value} {xs : List UInt8} (h : Row w base v xs) (hB : base ≤ w.heap.size) (hg : w.grownBy w' v.ownBlock) : Below base w w' :=
  Below.grown (Below.refl _ _) hg hB (fun k hk => (World.ownsRow.lt h k hk).1)
/-- A block of bytes, all of them read; H is its number as the walk writes it. -/
theorem Row.made (w : World) (xs : List UInt8) (base H : Nat) (hH : w.heap.size = H) (hb : base ≤ H) (hl : xs.length ≤ 40000000) :
    Row (w.alloc (.cells (cells (nums xs)).toArray 5)) base (.slice (some ⟨H, 0, none⟩) xs.length xs.length) xs := by
  subst hH
  have hn : (cells (nums xs)).length = xs.length := by rw [cells_length, nums_length]
  refine ⟨by omega, .inr ⟨w.heap.size, xs.length, (cells (nums xs)).toArray, rfl, hb, heap_alloc_new w _, Nat.le_refl _, by unfold maxLen; omega, by simp [hn], ?_⟩⟩
  rw [List.take_of_length_le (by simp [hn])]

section
variable {w : World} {ops : Array Oper} {rest : List Oper} {o : Oper} {a : Act} {Q : Exit → Act → World → Prop} {K : Act → World → Prop}
end

end Go.Proofs.Ytfjlknanaempdaa

/- A region that draws its order, walked step by step: what is held of the world may grow on the way. -/
namespace Go.Proofs.Ytfjlknanaempdaa
set_option linter.unusedVariables false
open Go.RowKit

section
variable {P : Program} {ops : Array Oper} {Q : Exit → Act → World → Prop} {md : Region.Mode} {S S' : World → Prop}
/-- Operation i first: it yields v in every world of which S is held. -/
theorem heldTake {i : Nat} {oi : Oper} {v : Value} {fuel : Nat} {listed : Array Bool} {a : Act} {w : World} (hi : ops[i]? = some oi)
    (hs : Region.noSelect ops = true) (hf : Region.free md ops listed i = true) (hr : (Region.ready md ops listed).contains i = true)
    (hS : S w) (hy : YieldsIf P ops S oi v a)
    (h : wpAnyH P md ops (NoPanic Q) S fuel (listed.setIfInBounds i true) (a.put oi.dst v) w) : wpAnyH P md ops (NoPanic Q) S (fuel + 1) listed a w :=
  wpAnyH_take hi hs hf hr (fun _ _ _ h => h) hy hS h
end

/-- Bytes handed back that stay what they are. -/
def Stays (A : Option Addr) (_c : Nat) (l : List UInt8) (W : World) : Prop := ∃ B, B ≤ W.heap.size ∧ Lies W B A (cells (nums l))
theorem Stays.on {A : Option Addr} {c : Nat} {l : List UInt8} {w1 w2 : World} (h : Stays A c l w1) (hb : Below w1.heap.size w1 w2) : Stays A c l w2 := by
  obtain ⟨B, h1, h2⟩ := h
  exact ⟨B, Nat.le_trans h1 hb.size, h2.below hb h1⟩
end Go.Proofs.Ytfjlknanaempdaa

/- The program's truth, rotate, quotient, divide, shift of 32 bits, as plain functions of numbers. (By gen/genAl.py.) -/
namespace Go.Proofs.Ytfjlknanaempdaa
open Go.RowKit
set_option linter.unusedVariables false
set_option maxRecDepth 100000
theorem altruth (b : Bool) (w : World) : Calls Try.prog 24 #[.bool b] w fun e w' => e = .returned (.int .u32 ((b.toNat : Nat))) ∧ w = w' := by
  cases b
  · go_enter Try.func24, Try.ntmps24
    go_wp2
    go_ret
    exact ⟨rfl, rfl⟩
  · go_enter Try.func24, Try.ntmps24
    go_wp2
    go_ret
    exact ⟨rfl, rfl⟩
theorem alwr {v : Nat} (hv : v < 4294967296) : wrap32 (v : Int) = sg 32 v := by
  unfold sg wrap32
  rw [show (2 : Int) ^ 32 = 4294967296 by decide, show 2 ^ 32 = 4294967296 by decide]
  split <;> omega
theorem alrt (k : Int) : bits .and .u64 (IntKind.u64.wrap k) 31 = k % 32 := by
  have h : (BitVec.ofInt 64 31).toNat = 2 ^ 5 - 1 := by decide
  have key : (BitVec.ofInt 64 (IntKind.u64.wrap k) &&& BitVec.ofInt 64 31).toNat = (IntKind.u64.wrap k % ((2 ^ 64 : Nat) : Int)).toNat % 2 ^ 5 := by
    rw [BitVec.toNat_and, BitVec.toNat_ofInt, h, Nat.and_two_pow_sub_one_eq_mod]
  show IntKind.u64.wrap ((BitVec.ofInt 64 (IntKind.u64.wrap k) &&& BitVec.ofInt 64 31).toNat : Nat) = k % 32
  rw [key, IntKind.wrap_u64, IntKind.wrap_u64]
  omega
theorem alrot {w : World} (v s : Nat) (k : Int) (hv : v < 4294967296) (hs : s < 32) (hk : k % 32 = s) : Calls Try.prog 23 #[.int .u32 v, .int .i64 k] w fun e w' => e = .returned (.int .u32 ((rotN 32 v s : Nat))) ∧ w = w' := by
  have es := (alrt k).trans hk
  have e3 : IntKind.u64.wrap (32 - (s : Int)) = ((32 - s : Nat) : Int) := by rw [IntKind.wrap_u64]; omega
  have q : bits .or .u32 (((v : Int) * 2 ^ s) % 4294967296) ((v : Int) / 2 ^ (32 - s)) = ((rotN 32 v s : Nat) : Int) := by
    have h := or_rot (n := 32) (v := v) hv hs
    rw [← h]
    have p1 : v * 2 ^ s % 4294967296 < 4294967296 := Nat.mod_lt _ (by decide)
    have p2 : v / 2 ^ (32 - s) < 4294967296 := Nat.lt_of_le_of_lt (Nat.div_le_self _ _) hv
    rw [← u32_or_nat _ _ p1 p2, Int.natCast_emod, Int.natCast_mul, Int.natCast_ediv, Int.natCast_pow, Int.natCast_pow]
    rfl
  go_enter Try.func23, Try.ntmps23
  go_wp2
  go_ret
  first | exact ⟨rfl, rfl⟩ | exact ⟨congrArg (fun x => Ending.returned (Value.int .u32 x)) q, rfl⟩
theorem alquoA {w : World} : Calls Try.prog 22 #[.int .i32 (-2147483648), .int .i32 (-1)] w fun e w' => e = .returned (.tuple #[.int .u32 (0), .int .i64 (62)]) ∧ w = w' := by
  go_enter Try.func22, Try.ntmps22
  go_wp2
  go_ret2
  exact ⟨rfl, rfl⟩
theorem alquoB {w : World} (x y : Int) (h : ¬ (x = -2147483648 ∧ y = -1)) (hy : y ≠ 0) : Calls Try.prog 22 #[.int .i32 x, .int .i32 y] w fun e w' => e = .returned (.tuple #[.int .u32 (x.tdiv y % 4294967296), .int .i64 (0)]) ∧ w = w' := by
  have d0 : (y == 0) = false := by simp; omega
  have q : (wrap32 (x.tdiv y)) % 4294967296 = x.tdiv y % 4294967296 := by unfold wrap32; omega
  by_cases hx : x = -2147483648
  · have d1 : (x == -2147483648) = true := by simp; omega
    have d2 : (y == -1) = false := by simp; omega
    clear hx h
    go_enter Try.func22, Try.ntmps22
    go_wp2
    go_ret2
    first | exact ⟨rfl, rfl⟩ | exact ⟨congrArg (fun z => Ending.returned (Value.tuple #[Value.int .u32 z, Value.int .i64 0])) q, rfl⟩
  · have d1 : (x == -2147483648) = false := by simp; omega
    clear hx h
    go_enter Try.func22, Try.ntmps22
    go_wp2
    go_ret2
    first | exact ⟨rfl, rfl⟩ | exact ⟨congrArg (fun z => Ending.returned (Value.tuple #[Value.int .u32 z, Value.int .i64 0])) q, rfl⟩
theorem aldiv0 {w : World} (v u : Nat) (hv : v < 4294967296) (hu : u < 4294967296) : Calls Try.prog 9 #[.int .u8 109, .int .u32 v, .int .u32 u] w fun e w' => e = .returned (.tuple #[.int .u32 ((quoN 32 0 v u).1), .int .i64 ((quoN 32 0 v u).2)]) ∧ w = w' := by
  by_cases h0 : u = 0
  · subst h0
    go_enter Try.func9, Try.ntmps9
    go_wp2
    go_ret2
    exact ⟨rfl, rfl⟩
  have d0 : ((u : Int) == 0) = false := by simp; omega
  have ev := alwr hv
  have eu := alwr hu
  have hz : sg 32 u ≠ 0 := fun h => h0 ((sg_zero (n := 32) hu).1 h)
  have c1 : sg 32 v = -2147483648 ↔ v = 2147483648 := by unfold sg; rw [show (2 : Int) ^ 32 = 4294967296 by decide, show 2 ^ 32 = 4294967296 by decide]; split <;> omega
  have c2 : sg 32 u = -1 ↔ u = 4294967295 := by unfold sg; rw [show (2 : Int) ^ 32 = 4294967296 by decide, show 2 ^ 32 = 4294967296 by decide]; split <;> omega
  by_cases hc : v = 2147483648 ∧ u = 4294967295
  · have hr : quoN 32 0 v u = (0, 62) := by unfold quoN; rw [if_neg h0, if_pos rfl, if_pos hc]
    rw [hr]
    rw [c1.2 hc.1] at ev
    rw [c2.2 hc.2] at eu
    clear hr c1 c2 hc
    go_enter Try.func9, Try.ntmps9
    go_wp2_with (go_at_call 22; (with_reducible refine alquoA.mono ?_); rintro e w0 ⟨rfl, rfl⟩)
    go_ret2
    exact ⟨rfl, rfl⟩
  · have hr : quoN 32 0 v u = ((sg 32 v).tdiv (sg 32 u) % 2 ^ 32 |>.toNat, 0) := by unfold quoN; rw [if_neg h0, if_pos rfl, if_neg hc]
    rw [hr]
    have HQ := Lib.hid (alquoB (w := w) (sg 32 v) (sg 32 u) (fun h => hc ⟨c1.1 h.1, c2.1 h.2⟩) hz)
    have q : (sg 32 v).tdiv (sg 32 u) % 4294967296 = ((((sg 32 v).tdiv (sg 32 u) % 2 ^ 32).toNat : Nat) : Int) := by rw [show (2 : Int) ^ 32 = 4294967296 by decide]; omega
    obtain ⟨r, hr2⟩ : ∃ r : Nat, r = ((sg 32 v).tdiv (sg 32 u) % 2 ^ 32).toNat := ⟨_, rfl⟩
    rw [← hr2] at q ⊢
    clear hr c1 c2 hc hr2
    generalize sg 32 v = x at *
    generalize sg 32 u = y at *
    go_enter Try.func9, Try.ntmps9
    go_wp2_with (go_at_call 22; (with_reducible refine HQ.out.mono ?_); rintro e w0 ⟨rfl, rfl⟩)
    go_ret2
    first | exact ⟨rfl, rfl⟩ | exact ⟨congrArg (fun z => Ending.returned (Value.tuple #[Value.int .u32 z, Value.int .i64 0])) q, rfl⟩
theorem aldiv1 {w : World} (v u : Nat) (hv : v < 4294967296) (hu : u < 4294967296) : Calls Try.prog 9 #[.int .u8 110, .int .u32 v, .int .u32 u] w fun e w' => e = .returned (.tuple #[.int .u32 ((quoN 32 1 v u).1), .int .i64 ((quoN 32 1 v u).2)]) ∧ w = w' := by
  by_cases h0 : u = 0
  · subst h0
    go_enter Try.func9, Try.ntmps9
    go_wp2
    go_ret2
    exact ⟨rfl, rfl⟩
  have d0 : ((u : Int) == 0) = false := by simp; omega
  have q : ((v : Int) / (u : Int)) % 4294967296 = (((quoN 32 1 v u).1 : Nat) : Int) := by
    unfold quoN
    rw [if_neg h0]
    have h := Nat.div_le_self v u
    show _ = ((v / u : Nat) : Int)
    rw [← Int.natCast_ediv]
    generalize v / u = d at *
    omega
  have q2 : (quoN 32 1 v u).2 = 0 := by unfold quoN; rw [if_neg h0]; rfl
  rw [q2]
  go_enter Try.func9, Try.ntmps9
  go_wp2
  go_ret2
  first | exact ⟨rfl, rfl⟩ | exact ⟨congrArg (fun z => Ending.returned (Value.tuple #[Value.int .u32 z, Value.int .i64 0])) q, rfl⟩
theorem aldiv2 {w : World} (v u : Nat) (hv : v < 4294967296) (hu : u < 4294967296) : Calls Try.prog 9 #[.int .u8 111, .int .u32 v, .int .u32 u] w fun e w' => e = .returned (.tuple #[.int .u32 ((quoN 32 2 v u).1), .int .i64 ((quoN 32 2 v u).2)]) ∧ w = w' := by
  by_cases h0 : u = 0
  · subst h0
    go_enter Try.func9, Try.ntmps9
    go_wp2
    go_ret2
    exact ⟨rfl, rfl⟩
  have d0 : ((u : Int) == 0) = false := by simp; omega
  have ev := alwr hv
  have eu := alwr hu
  have hz : sg 32 u ≠ 0 := fun h => h0 ((sg_zero (n := 32) hu).1 h)
  have hr : quoN 32 2 v u = ((sg 32 v).tmod (sg 32 u) % 2 ^ 32 |>.toNat, 0) := by unfold quoN; rw [if_neg h0]; rfl
  rw [hr]
  have q : ((sg 32 v).tmod (sg 32 u)) % 4294967296 = ((((sg 32 v).tmod (sg 32 u) % 2 ^ 32).toNat : Nat) : Int) := by rw [show (2 : Int) ^ 32 = 4294967296 by decide]; omega
  obtain ⟨r, hr2⟩ : ∃ r : Nat, r = ((sg 32 v).tmod (sg 32 u) % 2 ^ 32).toNat := ⟨_, rfl⟩
  rw [← hr2] at q ⊢
  clear hr hr2
  generalize sg 32 v = x at *
  generalize sg 32 u = y at *
  have d1 : (y == 0) = false := by simp; omega
  go_enter Try.func9, Try.ntmps9
  go_wp2
  go_ret2
  first | exact ⟨rfl, rfl⟩ | exact ⟨congrArg (fun z => Ending.returned (Value.tuple #[Value.int .u32 z, Value.int .i64 0])) q, rfl⟩
theorem aldiv3 {w : World} (v u : Nat) (hv : v < 4294967296) (hu : u < 4294967296) : Calls Try.prog 9 #[.int .u8 112, .int .u32 v, .int .u32 u] w fun e w' => e = .returned (.tuple #[.int .u32 ((quoN 32 3 v u).1), .int .i64 ((quoN 32 3 v u).2)]) ∧ w = w' := by
  by_cases h0 : u = 0
  · subst h0
    go_enter Try.func9, Try.ntmps9
    go_wp2
    go_ret2
    exact ⟨rfl, rfl⟩
  have d0 : ((u : Int) == 0) = false := by simp; omega
  have q : (v : Int) % (u : Int) = (((quoN 32 3 v u).1 : Nat) : Int) := by
    unfold quoN
    rw [if_neg h0]
    have h := Nat.mod_lt v (show 0 < u by omega)
    show _ = ((v % u : Nat) : Int)
    rw [← Int.natCast_emod]
  have q2 : (quoN 32 3 v u).2 = 0 := by unfold quoN; rw [if_neg h0]; rfl
  rw [q2]
  go_enter Try.func9, Try.ntmps9
  go_wp2
  go_ret2
  first | exact ⟨rfl, rfl⟩ | exact ⟨congrArg (fun z => Ending.returned (Value.tuple #[Value.int .u32 z, Value.int .i64 0])) q, rfl⟩
theorem alsh0 {w : World} (v u : Nat) (hv : v < 4294967296) (hu : u < 32) : Calls Try.prog 10 #[.int .u8 116, .int .u32 v, .int .u32 u] w fun e w' => e = .returned (.int .u32 ((v * 2 ^ u % 4294967296 : Nat))) ∧ w = w' := by
  have q : ((v : Int) * 2 ^ u) % 4294967296 = ((v * 2 ^ u % 4294967296 : Nat) : Int) := by rw [Int.natCast_emod, Int.natCast_mul, Int.natCast_pow]; rfl
  go_enter Try.func10, Try.ntmps10
  go_wp2
  go_ret
  first | exact ⟨rfl, rfl⟩ | exact ⟨congrArg (fun x => Ending.returned (Value.int .u32 x)) q, rfl⟩
theorem alsh1 {w : World} (v u : Nat) (hv : v < 4294967296) (hu : u < 32) : Calls Try.prog 10 #[.int .u8 117, .int .u32 v, .int .u32 u] w fun e w' => e = .returned (.int .u32 (((sg 32 v / 2 ^ u % 4294967296).toNat : Nat))) ∧ w = w' := by
  have ev := alwr hv
  have q : (sg 32 v / 2 ^ u) % 4294967296 = (((sg 32 v / 2 ^ u % 4294967296).toNat : Nat) : Int) := by omega
  obtain ⟨r, hr2⟩ : ∃ r : Nat, r = (sg 32 v / 2 ^ u % 4294967296).toNat := ⟨_, rfl⟩
  rw [← hr2] at q ⊢
  clear hr2
  generalize sg 32 v = x at *
  go_enter Try.func10, Try.ntmps10
  go_wp2
  go_ret
  first | exact ⟨rfl, rfl⟩ | exact ⟨congrArg (fun x => Ending.returned (Value.int .u32 x)) q, rfl⟩
theorem alsh2 {w : World} (v u : Nat) (hv : v < 4294967296) (hu : u < 32) : Calls Try.prog 10 #[.int .u8 118, .int .u32 v, .int .u32 u] w fun e w' => e = .returned (.int .u32 ((v / 2 ^ u : Nat))) ∧ w = w' := by
  obtain ⟨r, hr2⟩ : ∃ r : Nat, r = v / 2 ^ u := ⟨_, rfl⟩
  have q : (v : Int) / 2 ^ u = (r : Int) := by rw [hr2, Int.natCast_ediv, Int.natCast_pow]; rfl
  rw [← hr2]
  clear hr2
  go_enter Try.func10, Try.ntmps10
  go_wp2
  go_ret
  first | exact ⟨rfl, rfl⟩ | exact ⟨congrArg (fun x => Ending.returned (Value.int .u32 x)) q, rfl⟩
theorem alsh3 {w : World} (v u : Nat) (hv : v < 4294967296) (hu : u < 32) : Calls Try.prog 10 #[.int .u8 119, .int .u32 v, .int .u32 u] w fun e w' => e = .returned (.int .u32 ((rotN 32 v u : Nat))) ∧ w = w' := by
  have HR := Lib.hid (alrot (w := w) v u (u : Int) hv hu (by omega))
  have e6 : wrap64 (u : Int) = u := by unfold wrap64; omega
  go_enter Try.func10, Try.ntmps10
  go_wp2_with (go_at_call 23; (with_reducible refine HR.out.mono ?_); rintro e w0 ⟨rfl, rfl⟩)
  go_ret
  exact ⟨rfl, rfl⟩
theorem alsh4 {w : World} (v u : Nat) (hv : v < 4294967296) (hu : u < 32) : Calls Try.prog 10 #[.int .u8 120, .int .u32 v, .int .u32 u] w fun e w' => e = .returned (.int .u32 ((rotN 32 v ((32 - u) % 32) : Nat))) ∧ w = w' := by
  have HR := Lib.hid (alrot (w := w) v ((32 - u) % 32) (-(u : Int)) hv (by omega) (by omega))
  have e4 : wrap64 (-(u : Int)) = -(u : Int) := by unfold wrap64; omega
  have e5 : IntKind.i64.wrap (-(u : Int)) = -(u : Int) := by simp only [IntKind.wrap, IntKind.bits, IntKind.signed]; simp; omega
  have e6 : wrap64 (u : Int) = u := by unfold wrap64; omega
  go_enter Try.func10, Try.ntmps10
  go_wp2_with (go_at_call 23; (with_reducible refine HR.out.mono ?_); rintro e w0 ⟨rfl, rfl⟩)
  go_ret
  exact ⟨rfl, rfl⟩
end Go.Proofs.Ytfjlknanaempdaa
