/- Plain mathematics: the bits of a varint's number, with and without a sign; when it fits. -/
import Derived.Test.YtanddfkhokcepaaDoorQz03
import Derived.Laws.AppendOwnNone
import Derived.Test.YtanddfkhokcepaaDoorQz01
import Derived.Lib.AppendZerosOnto
import Derived.Lib.AppendZeros
import Derived.Deep.DeepAppendWide
import Derived.LoopTactic
import Derived.Laws.BytesArg
import Derived.Lib.ValidLaws
import Derived.Lib.RuneCountTail
import Derived.Shelf.Unicode.DecodeSlow
import Derived.Lib.ValidAsc
import Derived.Deep.DeepMust
import Derived.Deep.RegionHeld3
import Derived.Lib.Strings
namespace Go.Proofs.YtanddfkhokcepaaDoor
open Go.RowKit
set_option linter.unusedVariables false

theorem bit_step (d x : Int) (i : Nat) : bit (d % 128 + 128 * x) (7 + i) = bit x i := by
  rw [← bit_div]
  have e : (d % 128 + 128 * x) / 2 ^ 7 = x := by
    show (d % 128 + 128 * x) / 128 = x
    omega
  rw [e]
theorem bit_byte (d x : Int) (i : Nat) (hi : i < 7) : bit (d % 128 + 128 * x) i = bit d i := by
  unfold bit
  have h : i = 0 ∨ i = 1 ∨ i = 2 ∨ i = 3 ∨ i = 4 ∨ i = 5 ∨ i = 6 := by omega
  have key : (d % 128 + 128 * x) / 2 ^ i % 2 = d / 2 ^ i % 2 := by
    rcases h with rfl | rfl | rfl | rfl | rfl | rfl | rfl <;> simp <;> omega
  rw [key]
theorem bit_low : ∀ (l : List Int) (j i : Nat) (c : Int), i < 7 → l[j]? = some c → bit (low l) (7 * j + i) = bit c i
  | [], j, i, c, _, h => by simp at h
  | d :: r, 0, i, c, hi, h => by
    have : d = c := by simpa using h
    subst this
    rw [Nat.mul_zero, Nat.zero_add]
    exact bit_byte d _ i hi
  | d :: r, j + 1, i, c, hi, h => by
    have ih := bit_low r j i c hi (by simpa using h)
    rw [show 7 * (j + 1) + i = 7 + (7 * j + i) by omega, ← ih]
    exact bit_step d _ _

/-- The number of n bits, m of them known: with a sign, or without. -/
def ext (s : Bool) (N : Int) (m : Nat) : Int := if s && bit N (m - 1) then N - 2 ^ m else N
theorem ext_low (s : Bool) (N : Int) (m j : Nat) (h : j < m) : bit (ext s N m) j = bit N j := by
  unfold ext
  split
  · unfold bit
    have e : (2 : Int) ^ m = 2 ^ j * 2 * 2 ^ (m - j - 1) := by
      rw [show (2 : Int) ^ j * 2 = 2 ^ (j + 1) from (Int.pow_succ 2 j).symm, ← Int.pow_add]; congr 1; omega
    have hp := p2 j
    have e2 : N - 2 ^ m = N + 2 ^ j * (2 * -2 ^ (m - j - 1)) := by rw [e]; generalize (2 : Int) ^ (m - j - 1) = t; generalize (2 : Int) ^ j = u; grind
    rw [e2, Int.add_mul_ediv_left _ _ (Int.ne_of_gt hp)]
    congr 1
    omega
  · rfl
theorem ext_bd (s : Bool) {N : Int} {m : Nat} (hm : 1 ≤ m) (h0 : 0 ≤ N) (h1 : N < 2 ^ m) : -2 ^ m ≤ ext s N m ∧ ext s N m < 2 ^ m := by
  unfold ext
  have := p2 m
  split <;> omega
theorem bit_top {N : Int} {m : Nat} (hm : 1 ≤ m) (h0 : 0 ≤ N) (h1 : N < 2 ^ m) : bit N (m - 1) = decide (2 ^ (m - 1) ≤ N) := by
  have e : (2 : Int) ^ m = 2 * 2 ^ (m - 1) := by rw [show m = m - 1 + 1 by omega, Int.pow_succ, Int.mul_comm]; rfl
  have hp := p2 (m - 1)
  unfold bit
  by_cases h : 2 ^ (m - 1) ≤ N
  · have : N / 2 ^ (m - 1) = 1 := by rw [Int.ediv_eq_iff_of_pos hp]; constructor <;> omega
    rw [this]; simp [h]
  · have : N / 2 ^ (m - 1) = 0 := Int.ediv_eq_zero_of_lt h0 (by omega)
    rw [this]; simp [h]
theorem ext_over (s : Bool) {N : Int} {m : Nat} (hm : 1 ≤ m) (h0 : 0 ≤ N) (h1 : N < 2 ^ m) : ext s N m / 2 ^ m = if s && bit N (m - 1) then -1 else 0 := by
  unfold ext
  split
  · rw [Int.ediv_eq_iff_of_pos (p2 m)]; constructor <;> omega
  · exact Int.ediv_eq_zero_of_lt h0 h1
theorem ext_high (s : Bool) {N : Int} {m : Nat} (hm : 1 ≤ m) (h0 : 0 ≤ N) (h1 : N < 2 ^ m) (j : Nat) (hj : m ≤ j) : bit (ext s N m) j = (s && bit N (m - 1)) :=
  from_same (ext_over s hm h0 h1) j hj

/-- The sign that is asked for above the lowest n bits. -/
def topB (s : Bool) (N : Int) (m n : Nat) : Bool := s && bit N (min n m - 1)
/-- All known bits above the lowest n are the sign. -/
def Good (s : Bool) (N : Int) (m n : Nat) : Prop := ∀ j, n ≤ j → j < m → bit N j = topB s N m n

theorem good_ext {s : Bool} {N : Int} {m n : Nat} (hm : 1 ≤ m) (h0 : 0 ≤ N) (h1 : N < 2 ^ m) (hg : Good s N m n) (i : Nat) (hi : n ≤ i ∨ m ≤ i) : bit (ext s N m) i = topB s N m n := by
  rcases Nat.lt_or_ge i m with g | g
  · rw [ext_low s N m i g]; exact hg i (by omega) g
  · rw [ext_high s hm h0 h1 i g]
    rcases Nat.lt_or_ge n m with k | k
    · have h2 := hg (m - 1) (by omega) (by omega)
      rw [h2]
      unfold topB
      cases s <;> simp
    · unfold topB
      rw [Nat.min_eq_right k]
/-- It fits n bits. -/
def Fits (s : Bool) (X : Int) (n : Nat) : Prop := if s then X / 2 ^ (n - 1) = 0 ∨ X / 2 ^ (n - 1) = -1 else X / 2 ^ n = 0
theorem good_fits {s : Bool} {N : Int} {m n : Nat} (hm : 1 ≤ m) (hn : 1 ≤ n) (h0 : 0 ≤ N) (h1 : N < 2 ^ m) : Good s N m n ↔ Fits s (ext s N m) n := by
  obtain ⟨b1, b2⟩ := ext_bd s hm h0 h1
  have mm := mono2 (Nat.le_max_left m n)
  constructor
  · intro hg
    have hx := good_ext hm h0 h1 hg
    cases s
    · have h := same_from (x := ext false N m) (a := n) (b := max m n) (t := false) (by omega) (by omega) (by omega) (fun j hj _ => by rw [hx j (.inl hj)]; simp [topB])
      unfold Fits
      simpa using h
    · have h := same_from (x := ext true N m) (a := n - 1) (b := max m n) (t := topB true N m n) (by omega) (by omega) (by omega) (fun j hj _ => by
        rcases Nat.lt_or_ge j n with g | g
        · obtain rfl : j = n - 1 := by omega
          rcases Nat.lt_or_ge (n - 1) m with k | k
          · rw [ext_low _ _ _ _ k]; unfold topB; rw [Nat.min_eq_left (by omega)]; simp
          · exact hx _ (.inr k)
        · exact hx j (.inl g))
      unfold Fits
      rw [if_pos rfl, h]
      cases topB true N m n <;> simp
  · intro hf j hj hjm
    unfold Fits at hf
    rw [← ext_low s N m j hjm]
    cases s
    · simp only [Bool.false_eq_true, if_false] at hf
      rw [from_same (a := n) (t := false) (by simpa using hf) j hj]; simp [topB]
    · simp only [if_true] at hf
      have hb : ∀ i, n - 1 ≤ i → bit (ext true N m) i = bit (ext true N m) (n - 1) := fun i hi => by
        rcases hf with hf | hf
        · rw [from_same (a := n - 1) (t := false) (by simpa using hf) i hi, from_same (a := n - 1) (t := false) (by simpa using hf) (n - 1) (by omega)]
        · rw [from_same (a := n - 1) (t := true) (by simpa using hf) i hi, from_same (a := n - 1) (t := true) (by simpa using hf) (n - 1) (by omega)]
      rw [hb j (by omega), ext_low true N m (n - 1) (by omega)]
      unfold topB
      rw [Nat.min_eq_left (by omega)]
      simp
end Go.Proofs.YtanddfkhokcepaaDoor

/- creelref02.Read. -/
namespace Go.Proofs.YtanddfkhokcepaaDoor
open Go.RowKit
set_option linter.unusedVariables false

end Go.Proofs.YtanddfkhokcepaaDoor

/- Both readers, each beside the reference: the same answer. -/
namespace Go.Proofs.YtanddfkhokcepaaDoor
open Go.RowKit
set_option linter.unusedVariables false

theorem low_take {q : List Int} {p : Nat} {c : Int} (hpc : q[p]? = some c) (c0 : 0 ≤ c) (c2 : c < 128) : low (q.take (p + 1)) = numU (q.take p) c := by
  have hp := (List.getElem?_eq_some_iff.1 hpc).1
  rw [take_snoc hpc, low_snoc]
  unfold numU
  rw [Int.emod_eq_of_lt c0 c2]
theorem take_len {q : List Int} {p : Nat} {c : Int} (hpc : q[p]? = some c) : (q.take p).length = p := by
  have hp := (List.getElem?_eq_some_iff.1 hpc).1
  rw [List.length_take]; omega
theorem num_bd {q : List Int} {p : Nat} {c : Int} (hpc : q[p]? = some c) (c0 : 0 ≤ c) (c2 : c < 128) : 0 ≤ numU (q.take p) c ∧ numU (q.take p) c < 2 ^ (7 * (p + 1)) := by
  have hp := (List.getElem?_eq_some_iff.1 hpc).1
  have h := low_bd (q.take (p + 1))
  rw [low_take hpc c0 c2, List.length_take, show min (p + 1) q.length = p + 1 by omega] at h
  exact h
theorem ext_signed {q : List Int} {p : Nat} {c : Int} (hpc : q[p]? = some c) (c0 : 0 ≤ c) (c2 : c < 128) : ext true (numU (q.take p) c) (7 * (p + 1)) = numS (q.take p) c := by
  obtain ⟨b0, b1⟩ := num_bd hpc c0 c2
  have hb := bit_top (m := 7 * (p + 1)) (by omega) b0 b1
  obtain ⟨l0, l1⟩ := low_bd (q.take p)
  unfold ext
  unfold numS numU at *
  rw [take_len hpc] at *
  rw [hb]
  have e1 : (2 : Int) ^ (7 * (p + 1) - 1) = 64 * 2 ^ (7 * p) := by rw [show 7 * (p + 1) - 1 = 7 * p + 6 by omega, Int.pow_add, Int.mul_comm]; rfl
  have e2 : (2 : Int) ^ (7 * (p + 1)) = 128 * 2 ^ (7 * p) := by rw [show 7 * (p + 1) = 7 * p + 7 by omega, Int.pow_add, Int.mul_comm]; rfl
  rw [e1, e2]
  unfold sg
  generalize (2 : Int) ^ (7 * p) = t at *
  by_cases h : 64 ≤ c
  · have : 64 * t ≤ low (q.take p) + c * t := by
      have := Int.mul_le_mul_of_nonneg_right h (show 0 ≤ t by omega)
      omega
    simp only [this, decide_true, Bool.and_self, if_true, if_pos h]
    grind
  · have : ¬ 64 * t ≤ low (q.take p) + c * t := by
      have := Int.mul_le_mul_of_nonneg_right (show c ≤ 63 by omega) (show 0 ≤ t by omega)
      omega
    simp only [this, decide_false, Bool.and_false, Bool.false_eq_true, if_false, if_neg h]

/-- What is asked of a slice that comes in: it reads as these bytes. -/
structure Has (w : World) (B : Nat) (A : Option Addr) (cap : Nat) (r : List Int) : Prop where
  lies : Lies w B A (cells r)
  low_ : B ≤ w.heap.size
  room : r.length ≤ cap
  most : cap ≤ maxLen

end Go.Proofs.YtanddfkhokcepaaDoor

/- The law LebReads. -/
namespace Go.Proofs.YtanddfkhokcepaaDoor
open Go.RowKit
set_option linter.unusedVariables false

theorem Has.below {w w' : World} {B : Nat} {A : Option Addr} {cap : Nat} {r : List Int} (h : Has w B A cap r) (hb : Below w.heap.size w w') : Has w' B A cap r :=
  ⟨h.lies.below hb h.low_, Nat.le_trans h.low_ hb.size, h.room, h.most⟩
theorem back_s {V : Int} (h0 : -9223372036854775808 ≤ V) (h1 : V ≤ 9223372036854775807) : IntKind.i64.wrap (V % 2 ^ 64) = V := by
  have e : (2 : Int) ^ 64 = 18446744073709551616 := rfl
  rw [IntKind.wrap_i64, e]
  omega

end Go.Proofs.YtanddfkhokcepaaDoor

/- What is written is read again: behind it, longer by a group, without its last byte. -/
namespace Go.Proofs.YtanddfkhokcepaaDoor
open Go.RowKit
set_option linter.unusedVariables false

theorem p128_2 (k : Nat) : (128 : Int) ^ k = 2 ^ (7 * k) := (pow7 k).symm
theorem mod_step (x : Int) (k : Nat) : x % 2 ^ (7 * (k + 1)) = x % 2 ^ (7 * k) + x / 2 ^ (7 * k) % 128 * 2 ^ (7 * k) := by
  have hp := p2 (7 * k)
  have e4 : (2 : Int) ^ (7 * (k + 1)) = 128 * 2 ^ (7 * k) := by rw [show 7 * (k + 1) = 7 * k + 7 by omega, Int.pow_add, Int.mul_comm]; rfl
  have e3 : x / 2 ^ (7 * (k + 1)) = x / 2 ^ (7 * k) / 128 := by rw [show 7 * (k + 1) = 7 * k + 7 by omega, ← div_pow]; rfl
  have e1 := Int.emod_def x (2 ^ (7 * k))
  have e2 := Int.emod_def x (2 ^ (7 * (k + 1)))
  rw [e3, e4] at e2
  rw [e4, e2, e1]
  have h2 : x / 2 ^ (7 * k) = 128 * (x / 2 ^ (7 * k) / 128) + x / 2 ^ (7 * k) % 128 := by omega
  generalize x / 2 ^ (7 * k) / 128 = q at *
  generalize x / 2 ^ (7 * k) % 128 = m at *
  rw [h2]
  grind
theorem low_grps (x : Int) : ∀ k, low (grps x k) = x % 2 ^ (7 * k)
  | 0 => by simp [grps, low]
  | k + 1 => by
    rw [grps_snoc, low_snoc, low_grps x k, grps_length, mod_step, p128_2]
    congr 2
    omega
theorem grps_wf (x : Int) (k : Nat) : ∀ c ∈ grps x k, 0 ≤ c ∧ c ≤ 255 := by
  intro c hc
  obtain ⟨i, _, rfl⟩ := List.mem_map.1 hc
  omega
theorem grps_on (x : Int) (k : Nat) : ∀ c ∈ grps x k, 128 ≤ c := by
  intro c hc
  obtain ⟨i, _, rfl⟩ := List.mem_map.1 hc
  omega
theorem grps_at (x : Int) (p : Nat) (c : Int) (l : List Int) : (grps x p ++ c :: l)[p]? = some c := by
  have h : (grps x p).length = p := grps_length x p
  rw [List.getElem?_append_right (by omega), h]; simp
theorem grps_take (x : Int) (p : Nat) (c : Int) (l : List Int) : (grps x p ++ c :: l).take p = grps x p := by
  have h : (grps x p).length = p := grps_length x p
  rw [List.take_append_of_le_length (by omega), List.take_of_length_le (by omega)]
theorem grps_stop (x : Int) (p M : Nat) (c : Int) (l : List Int) (hc : c < 128) (hM : p ≤ M) : Stop M (grps x p ++ c :: l) p := by
  have h : (grps x p).length = p := grps_length x p
  refine ⟨hM, by simp; omega, fun i d hi hd => ?_, fun d _ hd => ?_⟩
  · rw [List.getElem?_append_left (by omega)] at hd
    exact grps_on x p d (List.mem_of_getElem? hd)
  · rw [grps_at] at hd; injection hd with hd; omega
theorem grps_short (x : Int) (p M : Nat) (hM : p ≤ M) : Stop M (grps x p) p := by
  have h : (grps x p).length = p := grps_length x p
  refine ⟨hM, by omega, fun i d hi hd => grps_on x p d (List.mem_of_getElem? hd), fun d _ hd => ?_⟩
  rw [List.getElem?_eq_none (by omega)] at hd; cases hd

theorem rdU (x c : Int) (p n : Nat) (l : List Int) (A : Option Addr) (cap B len : Nat) (w : World) (hlen : (grps x p ++ c :: l).length = len) (hh : Has w B A cap (grps x p ++ c :: l)) (hwf : ∀ d ∈ l, 0 ≤ d ∧ d ≤ 255)
    (hx : x % 2 ^ (7 * p) + c * 2 ^ (7 * p) = x) (c0 : 0 ≤ c) (c1 : c < 128) (hf : c / 2 ^ (n - 7 * p) = 0) (n1 : 1 ≤ n) (n2 : n ≤ 64) (hp : p < (n + 6) / 7) :
    Calls Tryd.prog 131 #[.slice A len cap, .int .i64 0, .int .i64 n] w fun e w' => e = .returned (.tuple #[.int .u64 x, .int .i64 ((p : Int) + 1), .int .i64 0]) ∧ w = w' := by
  subst hlen
  have hb : ∀ d ∈ grps x p ++ c :: l, 0 ≤ d ∧ d ≤ 255 := fun d hd => by
    rcases List.mem_append.1 hd with h | h
    · exact grps_wf x p d h
    · rcases List.mem_cons.1 h with rfl | h
      · omega
      · exact hwf d h
  have h := ru_ok (grps x p ++ c :: l) A cap B 0 n p c w hh.lies hb hh.room hh.most (Nat.zero_le _) n1 n2 (by rw [List.drop_zero]; exact grps_stop x p _ c l c1 (by omega)) hp (by rw [List.drop_zero]; exact grps_at x p c l) hf
  rw [List.drop_zero, grps_take] at h
  have e : numU (grps x p) c = x := by unfold numU; rw [low_grps, grps_length]; exact hx
  rw [e] at h
  refine h.mono fun e' w' he => ⟨?_, he.2⟩
  rw [he.1]; simp
theorem rdShort (x : Int) (p n : Nat) (A : Option Addr) (cap B : Nat) (w : World) (hh : Has w B A cap (grps x p)) (n1 : 1 ≤ n) (n2 : n ≤ 64) (hp : p < (n + 6) / 7) :
    Calls Tryd.prog 131 #[.slice A p cap, .int .i64 0, .int .i64 n] w fun e w' => e = .returned (.tuple #[.int .u64 0, .int .i64 0, .int .i64 2]) ∧ w = w' := by
  have hl := grps_length x p
  have h := length_right (grps x p) A cap B 0 n p w hh.lies (grps_wf x p) hh.room hh.most (Nat.zero_le _) n1 n2 (by rw [List.drop_zero]; exact grps_short x p _ (by omega))
  unfold lenN lenE at h
  have hne : ¬ p = (n + 6) / 7 := by omega
  rw [hl] at h
  simp [hne] at h
  exact ru_fail _ _ _ 2 w (.inr (.inl rfl)) h

/-- A number below 2^n and its least groups. -/
theorem least_u {x : Int} {n na : Nat} (h0 : 0 ≤ x) (h1 : x < 2 ^ n) (n1 : 1 ≤ n) (n2 : n ≤ 64) (hn : Least (fitU x) na) :
    ∃ p c, na = p + 1 ∧ grp x na = grps x p ++ [c] ∧ x % 2 ^ (7 * p) + c * 2 ^ (7 * p) = x ∧ 0 ≤ c ∧ c < 128 ∧ c / 2 ^ (n - 7 * p) = 0 ∧ p < (n + 6) / 7 := by
  have hle : na ≤ (n + 6) / 7 := by
    refine hn.le (by omega) ?_
    show x / 128 ^ ((n + 6) / 7 - 1) < 128
    have hM : 1 ≤ (n + 6) / 7 := by omega
    have hM2 : n ≤ 7 * ((n + 6) / 7) := by omega
    generalize (n + 6) / 7 = M at *
    have e : (128 : Int) * 128 ^ (M - 1) = 2 ^ (7 * M) := by rw [p128_2, show 7 * M = 7 * (M - 1) + 7 by omega, Int.pow_add, Int.mul_comm]; rfl
    rw [Int.ediv_lt_iff_lt_mul (p128 _), e]
    have := mono2 hM2
    omega
  have h1' := hn.1
  obtain ⟨p, rfl⟩ : ∃ p, na = p + 1 := ⟨na - 1, by omega⟩
  have hf : x / 128 ^ p < 128 := hn.2.1
  have hq : 0 ≤ x / 128 ^ p := Int.ediv_nonneg h0 (Int.le_of_lt (p128 _))
  have hc : x / 128 ^ p % 128 = x / 128 ^ p := Int.emod_eq_of_lt hq hf
  refine ⟨p, x / 128 ^ p, rfl, by rw [grp_snoc, hc], ?_, hq, hf, ?_, by omega⟩
  · rw [p128_2, Int.mul_comm]; exact Int.emod_add_mul_ediv x _
  · rw [p128_2, div_pow, show 7 * p + (n - 7 * p) = n by omega]; exact Int.ediv_eq_zero_of_lt h0 h1
theorem least_s {x : Int} {n na : Nat} (h0 : -2 ^ (n - 1) ≤ x) (h1 : x < 2 ^ (n - 1)) (n1 : 1 ≤ n) (n2 : n ≤ 64) (hn : Least (fitS x) na) :
    ∃ p c, na = p + 1 ∧ grp x na = grps x p ++ [c] ∧ x % 2 ^ (7 * p) + sg c * 2 ^ (7 * p) = x ∧ 0 ≤ c ∧ c < 128 ∧ (sg c / 2 ^ (n - 7 * p - 1) = 0 ∨ sg c / 2 ^ (n - 7 * p - 1) = -1) ∧ p < (n + 6) / 7 := by
  have hle : na ≤ (n + 6) / 7 := by
    refine hn.le (by omega) ?_
    have e : (64 : Int) * 128 ^ ((n + 6) / 7 - 1) = 2 ^ (7 * ((n + 6) / 7 - 1) + 6) := by rw [p128_2, Int.pow_add, Int.mul_comm]; rfl
    have := mono2 (a := n - 1) (b := 7 * ((n + 6) / 7 - 1) + 6) (by omega)
    refine ⟨(Int.le_ediv_iff_mul_le (p128 _)).2 ?_, (Int.ediv_lt_iff_lt_mul (p128 _)).2 ?_⟩
    · rw [Int.neg_mul, e]; omega
    · rw [e]; omega
  have h1' := hn.1
  obtain ⟨p, rfl⟩ : ∃ p, na = p + 1 := ⟨na - 1, by omega⟩
  obtain ⟨f0, f1⟩ : -64 ≤ x / 128 ^ p ∧ x / 128 ^ p < 64 := hn.2.1
  have hs : sg (x / 128 ^ p % 128) = x / 128 ^ p := by unfold sg; split <;> omega
  refine ⟨p, x / 128 ^ p % 128, rfl, by rw [grp_snoc], ?_, by omega, by omega, ?_, by omega⟩
  · rw [hs, p128_2, Int.mul_comm]; exact Int.emod_add_mul_ediv x _
  · rw [hs, p128_2, div_pow, show 7 * p + (n - 7 * p - 1) = n - 1 by omega]
    obtain ⟨b0, b1⟩ := div_bounds (x := x) (a := n - 1) (b := n - 1) (Nat.le_refl _) h0 h1
    simp at b0 b1
    omega

theorem Lies.cell_add {w : World} {B : Nat} {ad : Addr} {vs : List Value} (h : Lies w B (some ad) vs) : ∀ j u, vs[j]? = some u → w.cell? (ad.add j) = some u := fun j u hu => by
  obtain ⟨b, off, e, _, h2⟩ := h j u hu
  injection e with e
  subst e
  rw [Go.WideShapes.add_plain]; exact h2
/-- append of whatever lies somewhere, nil too. -/
theorem wpList_append_lies {P : Program} {w : World} {ops : Array Oper} {rest : List Oper} {o : Oper} {a : Act} {Q : Exit → Act → World → Prop} (hgd : o.guard = none) (s x : Operand) (t : TypeId)
    (ho : o.op = .call { callee := .builtin .append, args := #[s, x], argTypes := #[t, t] })
    (base : Nat) (e : TypeId) (i : TypeInfo) (z : Value) (ht : P.underlying t = some (.slice e)) (hi : P.info? e = some i) (hz : i.zero = some z)
    (hsize : i.size = 1) (hby : i.bytes = 1) (hzs : z.cells.size = 1)
    (v : Value) (n : Nat) (xs : List Value) (hs : a.eval s = v) (hown : w.ownsRow base e 1 v n xs)
    (A : Option Addr) (m c B : Nat) (news : List Value) (hx : a.eval x = .slice A m c) (hl : news.length = m) (hnews : Lies w B A news) (hA : A = none → m = 0 ∧ c = 0) (h1 : ∀ u ∈ news, u.oneCell' = true)
    (h63 : n + m ≤ 1000) (hbase : base ≤ w.heap.size)
    (h : ∀ v' w', w'.ownsRow base e 1 v' (n + m) (xs ++ news) → w.grownBy w' v.ownBlock → wpList P ops Q rest (a.put o.dst v') w') : wpList P ops Q (o :: rest) a w := by
  rcases A with _ | ad
  · obtain ⟨rfl, rfl⟩ := hA rfl
    have hn : news = [] := List.eq_nil_of_length_eq_zero hl
    subst hn
    refine wpList_append_own_none hgd s x t ho base e i 1 ht hi v n xs hs hown hx (h v w (by simpa using hown) (World.grownBy.refl w _))
  · exact wpList_append_own w hgd s x t ho base e i z 1 1 ht hi hz hsize hby hzs (by omega) v n xs hs hown ad m c news hx (by omega) hnews.cell_add h1 (by unfold maxLen; omega) (by omega) hbase (fun v' w' h2 h3 _ => h v' w' h2 h3)
end Go.Proofs.YtanddfkhokcepaaDoor

/- What is written is read back: numbers, types, limits, globals. Of no program but for what a reading is. -/
namespace Go.Proofs.YtanddfkhokcepaaDoor
set_option maxRecDepth 100000
open Go.RowKit
set_option linter.unusedVariables false

theorem Stop.unique {M : Nat} {r : List Int} {p q : Nat} (h : Stop M r p) (g : Stop M r q) : p = q := by
  have key : ∀ {p q : Nat}, Stop M r p → Stop M r q → ¬ p < q := by
    intro p q h g hlt
    have h1 := g.leM
    have h2 := g.leR
    have e : r[p]? = some r[p] := List.getElem?_eq_getElem (by omega)
    have a := g.on p _ hlt e
    have b := h.off _ (by omega) e
    omega
  have a := key h g
  have b := key g h
  omega
theorem drop_past {l a r : List UInt8} {k : Nat} (h : l.drop k = a ++ r) : l.drop (k + a.length) = r := by
  rw [← List.drop_drop, h, List.drop_left]
theorem byteR_at {l r : List UInt8} {k : Nat} {c : UInt8} (h : l.drop k = c :: r) : byteR l k = .ok c (k + 1) := by
  have e : l[k]? = some c := by
    have := congrArg (·[0]?) h
    simpa using this
  unfold byteR
  rw [e]
theorem uintR_at {l r : List UInt8} {k n : Nat} {x : Int} (h : l.drop k = lebL x ++ r) (h0 : 0 ≤ x) (h1 : x < 2 ^ n) (n1 : 1 ≤ n) (n2 : n ≤ 64) : uintR l k n = .ok x (k + (lebL x).length) := by
  have m64 := mono2 n2
  have e64 : (2 : Int) ^ 64 = 18446744073709551616 := rfl
  have hna := lebN_least x (by omega)
  have hlen := lebL_length x
  have hnl := nums_lebL x
  obtain ⟨p, c, he, hg, hx, c0, c1, hf, hp⟩ := least_u h0 h1 n1 n2 hna
  rw [he] at hlen hnl
  rw [he] at hg
  have hd : (nums l).drop k = grps x p ++ c :: nums r := by
    have : (nums l).drop k = nums (l.drop k) := by unfold nums; rw [List.map_drop]
    rw [this, h, nums_append, hnl, hg]
    simp
  have hq : onN l k n = p := by
    have := onN_stop l k n
    rw [hd] at this
    exact this.unique (grps_stop x p _ c _ c1 (by omega))
  unfold uintR
  rw [if_pos ⟨n1, n2⟩, hq, if_neg (by omega), hd, grps_at]
  simp only
  rw [if_pos hf, grps_take, hlen]
  have e : numU (grps x p) c = x := by unfold numU; rw [low_grps, grps_length]; exact hx
  rw [e]
theorem indexR_at {l r : List UInt8} {k : Nat} {x : Int} (h : l.drop k = lebL x ++ r) (h0 : 0 ≤ x) (h1 : x ≤ 4294967295) : indexR l k = .ok x (k + (lebL x).length) :=
  uintR_at h h0 (by show x < 4294967296; omega) (by omega) (by omega)
theorem countR_at {l r : List UInt8} {k : Nat} {x : Int} (h : l.drop k = lebL x ++ r) (h0 : 0 ≤ x) (h1 : x ≤ 10000) : countR l k = .ok x (k + (lebL x).length) := by
  unfold countR atMostR
  rw [indexR_at h h0 (by omega), Res.bind_ok, if_pos h1]
theorem valR_at {l r : List UInt8} {k : Nat} {c : UInt8} (h : l.drop k = c :: r) (hc : valueZ c.toNat = 0) : valR l k = .ok c (k + 1) := by
  unfold valR
  rw [byteR_at h, Res.bind_ok, if_pos hc]
theorem valuesZ_cons {c : UInt8} {t : List UInt8} (h : valuesZ (c :: t) = 0) : valueZ c.toNat = 0 ∧ valuesZ t = 0 := by
  unfold valuesZ at h
  by_cases hc : valueZ c.toNat = 0
  · rw [if_pos hc] at h; exact ⟨hc, h⟩
  · rw [if_neg hc] at h; exact absurd h hc
theorem valsK_at {l : List UInt8} : ∀ (t r : List UInt8) (k : Nat) (acc : List UInt8), l.drop k = t ++ r → valuesZ t = 0 → valsK l t.length k acc = .ok (acc ++ t) (k + t.length)
  | [], r, k, acc, _, _ => by simp [valsK]
  | c :: t, r, k, acc, h, hv => by
    obtain ⟨h1, h2⟩ := valuesZ_cons hv
    have hd : l.drop (k + 1) = t ++ r := drop_past (a := [c]) (by simpa using h)
    have ih := valsK_at t r (k + 1) (acc ++ [c]) hd h2
    show (valR l k).bind _ = _
    rw [valR_at (by simpa using h) h1, Res.bind_ok, ih, List.append_assoc]
    simp only [List.singleton_append, List.length_cons]
    congr 1
    omega
theorem valsR_at {l t r : List UInt8} {k : Nat} (h : l.drop k = lebL t.length ++ t ++ r) (hv : valuesZ t = 0) (hl : t.length ≤ 10000) : valsR l k = .ok t (k + (lebL t.length).length + t.length) := by
  unfold valsR
  rw [List.append_assoc] at h
  rw [countR_at h (by omega) (by omega), Res.bind_ok, Int.toNat_natCast, valsK_at t r _ [] (drop_past h) hv]
  rfl
theorem funcZ_zero {p r : List UInt8} (h : funcZ p r = 0) : p.length ≤ 1000 ∧ r.length ≤ 1 ∧ valuesZ p = 0 ∧ valuesZ r = 0 := by
  unfold funcZ at h
  by_cases h1 : 1000 < p.length ∨ 1 < r.length
  · rw [if_pos h1] at h; cases h
  · rw [if_neg h1] at h
    by_cases h2 : valuesZ p = 0
    · rw [if_pos h2] at h; exact ⟨by omega, by omega, h2, h⟩
    · rw [if_neg h2] at h; exact absurd h h2
theorem funcR_at {l p r s : List UInt8} {k : Nat} (h : l.drop k = encL p r ++ s) (hz : funcZ p r = 0) : funcR l k = .ok (p, r) (k + (encL p r).length) := by
  obtain ⟨h1, h2, h3, h4⟩ := funcZ_zero hz
  have e : l.drop k = 96 :: ((lebL p.length ++ p ++ (lebL r.length ++ r ++ s))) := by rw [h]; unfold encL; simp
  have d1 : l.drop (k + 1) = lebL p.length ++ p ++ (lebL r.length ++ r ++ s) := drop_past (a := [96]) (by simpa using e)
  have d2 : l.drop (k + 1 + (lebL p.length).length + p.length) = lebL r.length ++ r ++ s := by
    have := drop_past (a := lebL p.length ++ p) d1
    rw [List.length_append, ← Nat.add_assoc] at this
    exact this
  unfold funcR tagR
  rw [byteR_at e, Res.bind_ok, if_pos (by rfl), Res.bind_ok, valsR_at d1 h3 (by omega), Res.bind_ok, valsR_at d2 h4 (by omega), Res.bind_ok, if_pos hz]
  congr 1
  unfold encL
  simp only [List.length_append, List.length_cons, List.length_nil]
  omega
theorem flagR_at {l r : List UInt8} {k : Nat} (m : Bool) (h : l.drop k = (if m then 1 else 0) :: r) : flagR l k = .ok m (k + 1) := by
  unfold flagR
  rw [byteR_at h, Res.bind_ok]
  cases m
  · rfl
  · rfl
theorem limR_at {l s : List UInt8} {k : Nat} {a b : Int} {c : Bool} (h : l.drop k = encLim a b c ++ s) (a0 : 0 ≤ a) (a1 : a ≤ 4294967295) (b0 : 0 ≤ b) (b1 : b ≤ 4294967295) (hc : c = false → b = 0) :
    limR l k = .ok (a, b, c) (k + (encLim a b c).length) := by
  unfold limR
  cases c with
  | false =>
    obtain rfl := hc rfl
    have e : l.drop k = 0 :: (lebL a ++ s) := by rw [h]; unfold encLim; simp
    have d1 : l.drop (k + 1) = lebL a ++ s := drop_past (a := [0]) (by simpa using e)
    rw [flagR_at false (by simpa using e), Res.bind_ok, indexR_at d1 a0 a1, Res.bind_ok, if_neg (by simp)]
    congr 1
    unfold encLim
    simp only [Bool.false_eq_true, if_false, List.length_append, List.length_cons, List.length_nil]
    omega
  | true =>
    have e : l.drop k = 1 :: (lebL a ++ (lebL b ++ s)) := by rw [h]; unfold encLim; simp
    have d1 : l.drop (k + 1) = lebL a ++ (lebL b ++ s) := drop_past (a := [1]) (by simpa using e)
    have d2 := drop_past d1
    rw [flagR_at true (by simpa using e), Res.bind_ok, indexR_at d1 a0 a1, Res.bind_ok, if_pos rfl, indexR_at d2 b0 b1, Res.bind_ok]
    congr 1
    unfold encLim
    simp only [if_true, List.length_append, List.length_cons, List.length_nil]
    omega
theorem globR_at {l s : List UInt8} {k : Nat} {c : UInt8} {m : Bool} (h : l.drop k = encG c.toNat m ++ s) (hc : valueZ c.toNat = 0) : globR l k = .ok (c, m) (k + 2) := by
  have e : l.drop k = c :: ((if m then 1 else 0) :: s) := by rw [h]; unfold encG; simp
  have d1 : l.drop (k + 1) = (if m then 1 else 0) :: s := drop_past (a := [c]) (by simpa using e)
  unfold globR
  rw [valR_at e hc, Res.bind_ok, flagR_at m d1, Res.bind_ok]
end Go.Proofs.YtanddfkhokcepaaDoor

/- slices.Grow, slices.Concat of bytes; append of whatever lies. -/
namespace Go.Proofs.YtanddfkhokcepaaDoor
open Go.RowKit
set_option linter.unusedVariables false
set_option maxRecDepth 100000

/-- append of whatever lies somewhere, nothing at all too. -/
theorem row_any {w : World} {ops : Array Oper} {rest : List Oper} {o : Oper} {a : Act} {Q : Exit → Act → World → Prop} (hgd : o.guard = none) (s x : Operand)
    (ho : o.op = .call { callee := .builtin .append, args := #[s, x], argTypes := #[25, 25] })
    (B : Nat) (v : Value) (xs : List UInt8) (hs : a.eval s = v) (hr : Row w B v xs)
    (A : Option Addr) (m c B' : Nat) (news : List UInt8) (hx : a.eval x = .slice A m c) (hl : news.length = m) (hn : Lies w B' A (cells (nums news))) (hA : A = none → c = 0)
    (hb : xs.length + news.length ≤ 1000000) (hB : B ≤ w.heap.size)
    (h : ∀ v' w', Row w' B v' (xs ++ news) → Below B w w' → wpList Tryd.prog ops Q rest (a.put o.dst v') w') : wpList Tryd.prog ops Q (o :: rest) a w := by
  by_cases hm : 0 < m
  · exact row_lies hgd s x ho B v xs hs hr A m c B' news hx hl hn hm hb hB h
  · obtain rfl : m = 0 := by omega
    have he : news = [] := List.eq_nil_of_length_eq_zero hl
    subst he
    obtain ⟨i0, hi0, hz0, hz1, hz2⟩ := info_parts infoB
    rcases A with _ | ad
    · obtain rfl := hA rfl
      refine wpList_append_own_none hgd s x 25 ho B 5 i0 1 Tryd.underlying25 hi0 v xs.length (cells (nums xs)) hs hr hx (h v w (by simpa using hr) (Below.refl _ _))
    · refine wpList_append_own w hgd s x 25 ho B 5 i0 _ 1 1 Tryd.underlying25 hi0 hz0 hz1 hz2 rfl (by omega) v xs.length (cells (nums xs)) hs hr ad 0 c [] hx rfl (by intro j u hu; cases hu) (by intro u hu; cases hu) (by unfold maxLen; omega) (by omega) hB (fun v' w' h2 h3 _ => h v' w' ?_ (Row.below hr hB h3))
      show w'.ownsRow B 5 1 v' (xs ++ []).length (cells (nums (xs ++ [])))
      rw [List.append_nil]
      simpa using h2

/-- Grow of nil: room for n bytes, none of them read. -/
def Room (w : World) (e : Ending) (w' : World) : Prop := ∃ v, e = .returned v ∧ Row w' w.heap.size v [] ∧ Below w.heap.size w w'
theorem grow_any (n : Nat) (w : World) (h0 : 0 < n) (hn : n ≤ 1000000) : Calls Tryd.prog 95 #[.slice none 0 0, .int .i64 n] w (Room w) := by
  obtain ⟨i0, hi0, hz0, hz1, hz2⟩ := info_parts infoB
  have hrz : ∀ ty, (Builtin.append_ #[25, 3] ty #[.slice none 0 0, .int .i64 n]).run Tryd.prog w = _ := fun ty =>
    Lib.run_append_grow_zeros w 25 3 ty 5 i0 _ .i64 .i64 Tryd.underlying25 Tryd.underlying3 hi0 hz0 none 0 0 [] (run_firstCells_none w.drew i0.size 0 0 0) n h0 (by omega) (by omega) (by omega) (by rw [hz2]; omega) (growslice_fits_wide (by omega) (by rw [hz2]; omega))
  simp only [Nat.zero_add] at hrz
  have hGn : n ≤ grownCap w n 0 5 := grownCap_ge w _ _ _
  have hG63 : grownCap w n 0 5 ≤ maxLen := grownCap_le_maxLen w n 0 5 (by unfold maxLen; omega)
  obtain ⟨G, hG⟩ : ∃ G, G = grownCap w n 0 5 := ⟨_, rfl⟩
  rw [← hG] at hrz hGn hG63
  clear hG
  have hend : ∀ cs : Array Value, cs.size = G → Row (w.alloc (.cells cs 5)).drew w.heap.size (.slice (some ⟨w.heap.size, 0, none⟩) 0 G) [] := fun cs hc =>
    ⟨rfl, .inr ⟨w.heap.size, G, cs, rfl, Nat.le_refl _, heap_alloc_new w _, by simp, hG63, by simp [hc], by simp [cells, nums]⟩⟩
  have hcs : (Builtin.zeroCells #[Value.int .u8 0] n ++ Builtin.zeroCells #[Value.int .u8 0] (G - n)).size = G := by
    simp only [Array.size_append, size_zeroCells]
    simp
    omega
  have HEND := Lib.hid (hend _ hcs)
  have hG2 : (G : Int) ≤ 9223372036854775807 := by unfold maxLen at hG63; omega
  have n1 : ¬ ((n : Int) < 0) := by omega
  have n2 : (n : Int) > 0 := by omega
  clear hend hcs hG63
  go_enter Tryd.func95, Tryd.ntmps95
  go_wp2_with (at_builtin; refine Lib.wpList_append_run _ rfl _ _ _ _ rfl _ _ rfl rfl _ _ (hrz _) ?_)
  go_ret
  exact ⟨_, rfl, HEND.out, ((Below.refl _ _).alloc (Nat.le_refl _) _).drew⟩

/-- Bytes that lie somewhere lie at a block. -/
theorem no_block {w : World} {B : Nat} {A : Option Addr} {l : List UInt8} (h : Lies w B A (cells (nums l))) (hA : A = none) : ¬ 0 < l.length := fun hl => by
  obtain ⟨b, off, e, _⟩ := h.at_ (i := 0) (by rw [cells_length, nums_length]; exact hl)
  rw [hA] at e
  cases e
set_option maxHeartbeats 800000 in
/-- Concat of two pieces, the first one not empty. -/
theorem concat_any {w : World} {g : Nat} {A1 A2 : Option Addr} {c1 c2 : Nat} {l1 l2 : List UInt8} (hg : Whole w g 25 #[.slice A1 l1.length c1, .slice A2 l2.length c2])
    (h1 : Lies w w.heap.size A1 (cells (nums l1))) (h2 : Lies w w.heap.size A2 (cells (nums l2))) (hA : A2 = none → c2 = 0) (n1 : 0 < l1.length) (n2 : l1.length + l2.length ≤ 1000000) :
    Calls Tryd.prog 58 #[.slice (some ⟨g, 0, none⟩) 2 2] w (BytesL (l1 ++ l2) w) := by
  have g0 : w.cell? ⟨g, 0, none⟩ = some (.slice A1 l1.length c1) := hg.cell 0
  have g1 : w.cell? ⟨g, 1, none⟩ = some (.slice A2 l2.length c2) := hg.cell 1
  obtain ⟨m1, hm1⟩ : ∃ m, m = l1.length := ⟨_, rfl⟩
  obtain ⟨m2, hm2⟩ : ∃ m, m = l2.length := ⟨_, rfl⟩
  rw [← hm1] at g0 n1 n2
  rw [← hm2] at g1 n2
  have HG := Lib.hid hg
  have H1 := Lib.hid h1
  have H2 := Lib.hid h2
  have HA := Lib.hid hA
  have HM1 := Lib.hid hm1
  have HM2 := Lib.hid hm2
  clear hg h1 h2 hA hm1 hm2
  have HGr := Lib.hid (grow_any (m1 + m2) w (by omega) n2)
  go_enter Tryd.func58, Tryd.ntmps58
  go_wp2
  go_loop [3, 11] (fun s i => (s = .int .i64 0 ∧ i = .int .i64 0) ∨ (s = .int .i64 m1 ∧ i = .int .i64 1) ∨ (s = .int .i64 ((m1 + m2 : Nat) : Int) ∧ i = .int .i64 2)) (fun _ i => 2 - (intOf i).toNat)
  case atStart => exact .inl ⟨rfl, rfl⟩
  case round =>
    rcases hrel with ⟨rfl, rfl⟩ | ⟨rfl, rfl⟩ | ⟨rfl, rfl⟩
    · go_wp2
      go_round
      case rel => exact .inr (.inl ⟨by go_num, rfl⟩)
      case measure => simp [intOf]
    · go_wp2
      go_round
      case rel => exact .inr (.inr ⟨by go_num, rfl⟩)
      case measure => simp [intOf]
    · go_wp2_with (go_at_call 95; go_must (refine HGr.out.mono ?_; intro e w1 h; obtain ⟨v1, rfl, hr1, hb1⟩ := h; have HR1 := Lib.hid hr1; have HB1 := Lib.hid hb1; clear hr1 hb1))
      go_loopw [6, 27] (fun v i wr => Below w.heap.size w wr ∧ ((Row wr w.heap.size v [] ∧ i = .int .i64 0) ∨ (Row wr w.heap.size v l1 ∧ i = .int .i64 1) ∨ (Row wr w.heap.size v (l1 ++ l2) ∧ i = .int .i64 2))) (fun _ i _ => 2 - (intOf i).toNat)
      case atStart => exact ⟨HB1.out, .inl ⟨HR1.out, rfl⟩⟩
      case round =>
        obtain ⟨hb, ⟨hr, rfl⟩ | ⟨hr, rfl⟩ | ⟨hr, rfl⟩⟩ := hrel
        · have c0 : wr.cell? ⟨g, 0, none⟩ = some (.slice A1 m1 c1) := by have := (HG.out.below hb).cell 0; rw [HM1.out]; exact this
          have HR := Lib.hid hr
          have HB := Lib.hid hb
          have hz := hb.size
          clear hr hb
          go_wp2_with (at_builtin; (refine row_any rfl _ _ rfl w.heap.size _ [] rfl HR.out A1 m1 c1 w.heap.size l1 rfl HM1.out.symm (H1.out.below HB.out (Nat.le_refl _)) (fun h => absurd n1 (by have := H1.out; cases HM1.out; exact no_block this h)) (by have := HM1.out; simp; omega) hz ?_; intro v2 w2 hr2 hb2; have HR2 := Lib.hid hr2; have HB2 := Lib.hid hb2; clear hr2 hb2))
          go_roundw
          case rel => exact ⟨HB.out.trans HB2.out, .inr (.inl ⟨by simpa using HR2.out, rfl⟩)⟩
          case measure => simp [intOf]
        · have c0 : wr.cell? ⟨g, 1, none⟩ = some (.slice A2 m2 c2) := by have := (HG.out.below hb).cell 1; rw [HM2.out]; exact this
          have HR := Lib.hid hr
          have HB := Lib.hid hb
          have hz := hb.size
          clear hr hb
          go_wp2_with (at_builtin; (refine row_any rfl _ _ rfl w.heap.size _ l1 rfl HR.out A2 m2 c2 w.heap.size l2 rfl HM2.out.symm (H2.out.below HB.out (Nat.le_refl _)) HA.out (by have := HM1.out; have := HM2.out; omega) hz ?_; intro v2 w2 hr2 hb2; have HR2 := Lib.hid hr2; have HB2 := Lib.hid hb2; clear hr2 hb2))
          go_roundw
          case rel => exact ⟨HB.out.trans HB2.out, .inr (.inr ⟨HR2.out, rfl⟩)⟩
          case measure => simp [intOf]
        · have HR := Lib.hid hr
          have HB := Lib.hid hb
          clear hr hb
          go_wp2
          go_ret
          exact ⟨_, rfl, HR.out, HB.out⟩
end Go.Proofs.YtanddfkhokcepaaDoor

/- Strings of bytes: what elder texts on names import. -/
namespace Go.Proofs.YtanddfkhokcepaaDoor
set_option linter.unusedVariables false
end Go.Proofs.YtanddfkhokcepaaDoor

/- What sign bytes begin with, as lists of bytes: the encoding of a number, the first sign, how many. No program here. -/
namespace Go.Proofs.YtanddfkhokcepaaDoor
set_option linter.unusedVariables false
open Go.Lib

/-- The encoding of a number; none, if it is no sign. -/
def bytesN (c : Nat) : List UInt8 :=
  if 1114111 < c ∨ (55296 ≤ c ∧ c ≤ 57343) then []
  else if c < 128 then [UInt8.ofNat c]
  else if c < 2048 then [UInt8.ofNat (192 + c / 64), UInt8.ofNat (128 + c % 64)]
  else if c < 65536 then [UInt8.ofNat (224 + c / 4096), UInt8.ofNat (128 + c / 64 % 64), UInt8.ofNat (128 + c % 64)]
  else [UInt8.ofNat (240 + c / 262144), UInt8.ofNat (128 + c / 4096 % 64), UInt8.ofNat (128 + c / 64 % 64), UInt8.ofNat (128 + c % 64)]
def bytesZ (c : Int) : List UInt8 := if c < 0 then [] else bytesN c.toNat

/-- The number that so many bytes would encode. -/
def val (n : Nat) (l : List UInt8) : Nat :=
  if n = 1 then (l.getD 0 0).toNat
  else if n = 2 then (l.getD 0 0).toNat % 32 * 64 + (l.getD 1 0).toNat % 64
  else if n = 3 then ((l.getD 0 0).toNat % 16 * 64 + (l.getD 1 0).toNat % 64) * 64 + (l.getD 2 0).toNat % 64
  else (((l.getD 0 0).toNat % 8 * 64 + (l.getD 1 0).toNat % 64) * 64 + (l.getD 2 0).toNat % 64) * 64 + (l.getD 3 0).toNat % 64
def GoodN (n : Nat) (l : List UInt8) : Prop := n ≤ l.length ∧ bytesN (val n l) = l.take n
/-- The first sign and its length; 0 and 0, if there is none. -/
def firstN (l : List UInt8) : Nat × Nat := if l = [] ∨ ((decodeL l).1 = 65533 ∧ (decodeL l).2 < 2) then (0, 0) else decodeL l
def countZ (l : List UInt8) : Int := if validD l = true then (runeCountL l : Int) else -1

theorem u8_of {n : Nat} (h : n < 256) : (UInt8.ofNat n).toNat = n := by simp; omega
theorem eq_u8 {b : UInt8} {n : Nat} (h : n < 256) : UInt8.ofNat n = b ↔ n = b.toNat := by
  constructor
  · intro e; rw [← e, u8_of h]
  · intro e; exact u8_ext (by rw [u8_of h, e])
theorem take_2 {l : List UInt8} (h : 2 ≤ l.length) : l.take 2 = [l.getD 0 0, l.getD 1 0] := by
  match l, h with
  | a :: b :: r, _ => rfl
theorem take_3 {l : List UInt8} (h : 3 ≤ l.length) : l.take 3 = [l.getD 0 0, l.getD 1 0, l.getD 2 0] := by
  match l, h with
  | a :: b :: c :: r, _ => rfl
theorem take_4 {l : List UInt8} (h : 4 ≤ l.length) : l.take 4 = [l.getD 0 0, l.getD 1 0, l.getD 2 0, l.getD 3 0] := by
  match l, h with
  | a :: b :: c :: d :: r, _ => rfl
theorem take_1 {l : List UInt8} (h : 1 ≤ l.length) : l.take 1 = [l.getD 0 0] := by
  match l, h with
  | a :: r, _ => rfl

theorem bytesN_1 {c : Nat} {b0 : UInt8} : bytesN c = [b0] ↔ c < 128 ∧ b0.toNat = c := by
  unfold bytesN
  have := b0.toNat_lt
  repeat' split
  · simp; omega
  · simp only [List.cons.injEq, and_true]; rw [eq_u8 (by omega)]; omega
  · simp; omega
  · simp; omega
  · simp; omega
theorem bytesN_2 {c : Nat} {b0 b1 : UInt8} : bytesN c = [b0, b1] ↔ 128 ≤ c ∧ c < 2048 ∧ b0.toNat = 192 + c / 64 ∧ b1.toNat = 128 + c % 64 := by
  unfold bytesN
  repeat' split
  · simp; omega
  · simp; omega
  · simp only [List.cons.injEq, and_true]; rw [eq_u8 (by omega), eq_u8 (by omega)]; omega
  · simp; omega
  · simp; omega
theorem bytesN_3 {c : Nat} {b0 b1 b2 : UInt8} : bytesN c = [b0, b1, b2] ↔ 2048 ≤ c ∧ c < 65536 ∧ ¬ (55296 ≤ c ∧ c ≤ 57343) ∧ b0.toNat = 224 + c / 4096 ∧ b1.toNat = 128 + c / 64 % 64 ∧ b2.toNat = 128 + c % 64 := by
  unfold bytesN
  repeat' split
  · simp; omega
  · simp; omega
  · simp; omega
  · simp only [List.cons.injEq, and_true]; rw [eq_u8 (by omega), eq_u8 (by omega), eq_u8 (by omega)]; omega
  · simp; omega
theorem bytesN_4 {c : Nat} {b0 b1 b2 b3 : UInt8} : bytesN c = [b0, b1, b2, b3] ↔ 65536 ≤ c ∧ c ≤ 1114111 ∧ b0.toNat = 240 + c / 262144 ∧ b1.toNat = 128 + c / 4096 % 64 ∧ b2.toNat = 128 + c / 64 % 64 ∧ b3.toNat = 128 + c % 64 := by
  unfold bytesN
  repeat' split
  · simp; omega
  · simp; omega
  · simp; omega
  · simp; omega
  · simp only [List.cons.injEq, and_true]; rw [eq_u8 (by omega), eq_u8 (by omega), eq_u8 (by omega), eq_u8 (by omega)]; omega

section
variable (l : List UInt8)
theorem good_1 (h : 1 ≤ l.length) : GoodN 1 l ↔ (l.getD 0 0).toNat < 128 := by
  unfold GoodN
  rw [take_1 h, bytesN_1]
  simp [val, h]
theorem good_2 (h : 2 ≤ l.length) : GoodN 2 l ↔ (l.getD 0 0).toNat / 32 = 6 ∧ (l.getD 1 0).toNat / 64 = 2 ∧ 128 ≤ (l.getD 0 0).toNat % 32 * 64 + (l.getD 1 0).toNat % 64 := by
  unfold GoodN
  have h0 := (l.getD 0 0).toNat_lt; have h1 := (l.getD 1 0).toNat_lt
  rw [take_2 h, bytesN_2]
  simp only [val, show ¬ (2 = 1) by omega, if_false, if_true, h, true_and]
  omega
theorem good_3 (h : 3 ≤ l.length) : GoodN 3 l ↔ (l.getD 0 0).toNat / 16 = 14 ∧ (l.getD 1 0).toNat / 64 = 2 ∧ (l.getD 2 0).toNat / 64 = 2 ∧ 2048 ≤ (l.getD 0 0).toNat % 16 * 4096 + (l.getD 1 0).toNat % 64 * 64 + (l.getD 2 0).toNat % 64 ∧
    ¬ (55296 ≤ (l.getD 0 0).toNat % 16 * 4096 + (l.getD 1 0).toNat % 64 * 64 + (l.getD 2 0).toNat % 64 ∧ (l.getD 0 0).toNat % 16 * 4096 + (l.getD 1 0).toNat % 64 * 64 + (l.getD 2 0).toNat % 64 ≤ 57343) := by
  unfold GoodN
  have h0 := (l.getD 0 0).toNat_lt; have h1 := (l.getD 1 0).toNat_lt; have h2 := (l.getD 2 0).toNat_lt
  rw [take_3 h, bytesN_3]
  simp only [val, show ¬ (3 = 1) by omega, show ¬ (3 = 2) by omega, if_false, if_true, h, true_and]
  omega
theorem good_4 (h : 4 ≤ l.length) : GoodN 4 l ↔ (l.getD 0 0).toNat / 8 = 30 ∧ (l.getD 1 0).toNat / 64 = 2 ∧ (l.getD 2 0).toNat / 64 = 2 ∧ (l.getD 3 0).toNat / 64 = 2 ∧
    65536 ≤ (l.getD 0 0).toNat % 8 * 262144 + (l.getD 1 0).toNat % 64 * 4096 + (l.getD 2 0).toNat % 64 * 64 + (l.getD 3 0).toNat % 64 ∧ (l.getD 0 0).toNat % 8 * 262144 + (l.getD 1 0).toNat % 64 * 4096 + (l.getD 2 0).toNat % 64 * 64 + (l.getD 3 0).toNat % 64 ≤ 1114111 := by
  unfold GoodN
  have h0 := (l.getD 0 0).toNat_lt; have h1 := (l.getD 1 0).toNat_lt; have h2 := (l.getD 2 0).toNat_lt; have h3 := (l.getD 3 0).toNat_lt
  rw [take_4 h, bytesN_4]
  simp only [val, show ¬ (4 = 1) by omega, show ¬ (4 = 2) by omega, show ¬ (4 = 3) by omega, if_false, h, true_and]
  omega
end
end Go.Proofs.YtanddfkhokcepaaDoor

/- The first sign by the numbers; how many signs. No program here. -/
namespace Go.Proofs.YtanddfkhokcepaaDoor
set_option linter.unusedVariables false
open Go.Lib
set_option maxRecDepth 100000

theorem decode_good {l : List UInt8} {n : Nat} (h1 : 1 ≤ n) (h4 : n ≤ 4) (h : GoodN n l) : decodeL l = (val n l, n) := by
  have hl := h.1
  have l0 := (l.getD 0 0).toNat_lt; have l1 := (l.getD 1 0).toNat_lt; have l2 := (l.getD 2 0).toNat_lt; have l3 := (l.getD 3 0).toNat_lt
  rw [decodeL_N]
  have hn : n = 1 ∨ n = 2 ∨ n = 3 ∨ n = 4 := by omega
  rcases hn with rfl | rfl | rfl | rfl
  · have g := (good_1 l hl).1 h
    unfold decodeN val
    rw [if_pos g, if_pos rfl]
  · have g := (good_2 l hl).1 h
    simp only [val, show ¬ (2 = 1) by omega, if_false, if_true]
    generalize (l.getD 0 0).toNat = b0 at *
    generalize (l.getD 1 0).toNat = b1 at *
    generalize (l.getD 2 0).toNat = b2 at *
    generalize (l.getD 3 0).toNat = b3 at *
    unfold decodeN
    repeat' split
    all_goals first | (exfalso; omega) | rfl
  · have g := (good_3 l hl).1 h
    simp only [val, show ¬ (3 = 1) by omega, show ¬ (3 = 2) by omega, if_false, if_true]
    generalize (l.getD 0 0).toNat = b0 at *
    generalize (l.getD 1 0).toNat = b1 at *
    generalize (l.getD 2 0).toNat = b2 at *
    generalize (l.getD 3 0).toNat = b3 at *
    unfold decodeN
    repeat' split
    all_goals first | (exfalso; omega) | (apply Prod.ext <;> simp only <;> omega)
  · have g := (good_4 l hl).1 h
    simp only [val, show ¬ (4 = 1) by omega, show ¬ (4 = 2) by omega, show ¬ (4 = 3) by omega, if_false]
    generalize (l.getD 0 0).toNat = b0 at *
    generalize (l.getD 1 0).toNat = b1 at *
    generalize (l.getD 2 0).toNat = b2 at *
    generalize (l.getD 3 0).toNat = b3 at *
    unfold decodeN
    repeat' split
    all_goals first | (exfalso; omega) | (apply Prod.ext <;> simp only <;> omega)
theorem decode_none {l : List UInt8} (h : ∀ n, 1 ≤ n → n ≤ 4 → ¬ GoodN n l) (hl : l ≠ []) : decodeL l = (65533, 1) := by
  have hl1 : 1 ≤ l.length := List.length_pos_iff.2 hl
  have l0 := (l.getD 0 0).toNat_lt; have l1 := (l.getD 1 0).toNat_lt; have l2 := (l.getD 2 0).toNat_lt; have l3 := (l.getD 3 0).toNat_lt
  have g1 := h 1 (by omega) (by omega)
  rw [good_1 l hl1] at g1
  have g2 : ¬ (2 ≤ l.length ∧ _) := fun k => h 2 (by omega) (by omega) ((good_2 l k.1).2 k.2)
  have g3 : ¬ (3 ≤ l.length ∧ _) := fun k => h 3 (by omega) (by omega) ((good_3 l k.1).2 k.2)
  have g4 : ¬ (4 ≤ l.length ∧ _) := fun k => h 4 (by omega) (by omega) ((good_4 l k.1).2 k.2)
  rw [decodeL_N]
  clear h
  generalize (l.getD 0 0).toNat = b0 at *
  generalize (l.getD 1 0).toNat = b1 at *
  generalize (l.getD 2 0).toNat = b2 at *
  generalize (l.getD 3 0).toNat = b3 at *
  generalize l.length = n at *
  unfold decodeN
  repeat' split
  all_goals first | rfl | (exfalso; omega)
theorem firstN_good {l : List UInt8} {n : Nat} (h1 : 1 ≤ n) (h4 : n ≤ 4) (h : GoodN n l) : firstN l = (val n l, n) := by
  have hl := h.1
  have hd := decode_good h1 h4 h
  unfold firstN
  rw [if_neg, hd]
  rintro (rfl | ⟨e1, e2⟩)
  · simp at hl; omega
  · rw [hd] at e1 e2
    simp only at e1 e2
    obtain rfl : n = 1 := by omega
    have := (l.getD 0 0).toNat_lt
    simp only [val, if_true] at e1
    omega
theorem firstN_none {l : List UInt8} (h : ∀ n, 1 ≤ n → n ≤ 4 → ¬ GoodN n l) : firstN l = (0, 0) := by
  unfold firstN
  rw [if_pos]
  by_cases hl : l = []
  · exact .inl hl
  · rw [decode_none h hl]; right; simp
theorem firstN_nil : firstN [] = (0, 0) := rfl
/-- The first sign of what utf8.DecodeRune answers. -/
theorem firstN_of_go (s : ByteArray) : firstN s.data.toList = if (decodeGo s).1 = 65533 ∧ (decodeGo s).2 < 2 then (0, 0) else decodeGo s := by
  unfold firstN decodeGo decodeL
  have e : (⟨s.data.toList.toArray⟩ : ByteArray) = s := by cases s; rfl
  rw [e]
  by_cases h : s.size = 0
  · have : s.data.toList = [] := List.eq_nil_of_length_eq_zero (by rw [← Lib.size_eq]; exact h)
    simp [h, this]
  · have : s.data.toList ≠ [] := fun k => h (by rw [Lib.size_eq, k]; rfl)
    simp [h, this]

theorem bytesN_len (c : Nat) : (bytesN c).length ≤ 4 := by
  unfold bytesN
  repeat' split
  all_goals simp
/-- A sign's bytes are that sign's. -/
theorem good_bytes {c : Nat} {l : List UInt8} (h : bytesN c ≠ []) : GoodN (bytesN c).length (bytesN c ++ l) ∧ val (bytesN c).length (bytesN c ++ l) = c := by
  have key : val (bytesN c).length (bytesN c ++ l) = c := by
    unfold bytesN at *
    repeat' split
    · simp_all
    · simp [val]; omega
    · simp [val]; omega
    · simp [val]; omega
    · simp [val]; omega
  refine ⟨⟨by simp, ?_⟩, key⟩
  rw [key, List.take_left]
theorem first_bytes {c : Nat} {l : List UInt8} (h : bytesN c ≠ []) : firstN (bytesN c ++ l) = (c, (bytesN c).length) := by
  obtain ⟨h1, h2⟩ := good_bytes (l := l) h
  rw [firstN_good (List.length_pos_iff.2 h) (bytesN_len c) h1, h2]

theorem runeCountL_step {l : List UInt8} (h : l ≠ []) : runeCountL l = 1 + runeCountL (l.drop (decodeL l).2) := by
  have hl : 0 < l.length := List.length_pos_iff.2 h
  have hw := decodeL_width l
  have hz : (⟨l.toArray⟩ : ByteArray).size = l.length := by simp [ByteArray.size]
  have e : (⟨(l.drop (decodeL l).2).toArray⟩ : ByteArray) = (⟨l.toArray⟩ : ByteArray).extract (decodeL l).2 (⟨l.toArray⟩ : ByteArray).size := by
    apply ByteArray.ext
    apply Array.toList_inj.1
    rw [Lib.ext_list]
  unfold runeCountL
  rw [e]
  unfold runeCount
  rw [tail_size, tail_count, hz]
  obtain ⟨n, hn⟩ : ∃ n, l.length = n + 1 := ⟨l.length - 1, by omega⟩
  rw [hn]
  show (if 0 < (⟨l.toArray⟩ : ByteArray).size then _ else _) = _
  rw [if_pos (by omega)]
  congr 1
  rw [Nat.zero_add, Nat.add_zero]
  exact fuel_enough _ _ _ _ (by rw [hz]; show l.length - (decodeL l).2 ≤ n; omega) (by rw [hz]; show l.length - (decodeL l).2 ≤ _; omega)
theorem firstN_zero {l : List UInt8} (h : l ≠ []) : (firstN l).2 = 0 ↔ (decodeL l).1 = 65533 ∧ (decodeL l).2 = 1 := by
  have hw := decodeL_width l
  unfold firstN
  by_cases hc : (decodeL l).1 = 65533 ∧ (decodeL l).2 < 2
  · rw [if_pos (.inr hc)]; simp only [true_iff]; omega
  · rw [if_neg (by rintro (k | k); exact h k; exact hc k)]; omega
theorem valid_none {l : List UInt8} (h : l ≠ []) (h2 : (firstN l).2 = 0) : validD l = false := by
  rw [validD_step l h, if_pos ((firstN_zero h).1 h2)]
theorem firstN_width {l : List UInt8} (h2 : (firstN l).2 ≠ 0) : (firstN l).2 = (decodeL l).2 := by
  unfold firstN at *
  split at h2
  · exact absurd rfl h2
  · rename_i hc; rw [if_neg hc]
theorem valid_some {l : List UInt8} (h : l ≠ []) (h2 : (firstN l).2 ≠ 0) : validD l = validD (l.drop (firstN l).2) := by
  rw [firstN_width h2, validD_step l h, if_neg (fun k => h2 ((firstN_zero h).2 k))]
theorem count_some {l : List UInt8} (h : l ≠ []) (h2 : (firstN l).2 ≠ 0) : runeCountL l = 1 + runeCountL (l.drop (firstN l).2) := by
  rw [firstN_width h2]; exact runeCountL_step h
theorem firstN_le (l : List UInt8) : (firstN l).2 ≤ 4 ∧ (firstN l).2 ≤ l.length ∧ (firstN l).1 ≤ 1114111 := by
  by_cases h : ∃ n, 1 ≤ n ∧ n ≤ 4 ∧ GoodN n l
  · obtain ⟨n, a, b, g⟩ := h
    have e := firstN_good a b g
    have hd := decode_good a b g
    have := decodeL_rune l
    rw [hd] at this
    rw [e]
    exact ⟨b, g.1, this⟩
  · rw [firstN_none (fun n a b g => h ⟨n, a, b, g⟩)]
    simp
theorem count_le (l : List UInt8) : runeCountL l ≤ l.length := by
  have := runeCount_le (⟨l.toArray⟩ : ByteArray)
  have hz : (⟨l.toArray⟩ : ByteArray).size = l.length := by simp [ByteArray.size]
  rw [hz] at this
  exact this
end Go.Proofs.YtanddfkhokcepaaDoor

/- creelref03.Bytes. -/
namespace Go.Proofs.YtanddfkhokcepaaDoor
set_option linter.unusedVariables false
open Go.RowKit

/-- string of a new block of bytes. -/
theorem str_new (w : World) (arr : Array Value) (o : List UInt8) (n : Nat) (ha : arr = (cells (nums o)).toArray) (hn : n = o.length) : ∀ dst, Tryd.prog.underlying dst = some .string →
    (convert 25 dst (.slice (some ⟨w.heap.size, 0, none⟩) n n)).run Tryd.prog (w.alloc (.cells arr 5)) = .ok (.string (S o)) (w.alloc (.cells arr 5)) := by
  subst hn
  have h : Lies (w.alloc (.cells arr 5)) (w.heap.size + 1) (some ⟨w.heap.size, 0, none⟩) (cells (nums o)) := by
    intro i v hv
    refine ⟨w.heap.size, 0, rfl, by omega, ?_⟩
    rw [Nat.zero_add, cell_of_row _ w.heap.size i _ _ (0, 0) (heap_alloc_new w _), ha]
    simpa using hv
  by_cases h0 : 0 < (nums o).length
  · have := str_lies h h0 o.length Tryd.underlying25 Tryd.underlying5
    rw [strOfNums_nums, nums_length] at this
    exact this
  · have ho : o = [] := List.eq_nil_of_length_eq_zero (by rw [nums_length] at h0; omega)
    subst ho
    intro dst hd
    rw [run_convert_bytes_string _ _ dst 5 _ _ _ Tryd.underlying25 Tryd.underlying5 hd]
    have e : S [] = ByteArray.empty := rfl
    rw [e]
    simp [Conv.bytesToString, loadCells]
    rfl
theorem u8n {n : Nat} (h : n < 256) : ((UInt8.ofNat n).toNat : Int) = (n : Int) := by rw [u8_of h]
theorem bytesZ_neg {c : Int} (h : c < 0 ∨ 1114111 < c ∨ (55296 ≤ c ∧ c ≤ 57343)) : bytesZ c = [] := by
  unfold bytesZ bytesN
  by_cases h0 : c < 0
  · rw [if_pos h0]
  · rw [if_neg h0, if_pos (by omega)]
theorem bytesZ_1 {c : Int} (h0 : 0 ≤ c) (h1 : c < 128) : ∃ o, bytesZ c = o ∧ (cells (nums o)).toArray = #[.int .u8 c] ∧ o.length = 1 := by
  refine ⟨[UInt8.ofNat c.toNat], ?_, ?_, rfl⟩
  · unfold bytesZ bytesN; rw [if_neg (by omega), if_neg (by omega), if_pos (by omega)]
  · simp only [cells, nums, List.map_cons, List.map_nil]
    rw [u8n (by omega), show ((c.toNat : Nat) : Int) = c by omega]
theorem bytesZ_2 {c : Int} (h0 : 128 ≤ c) (h1 : c < 2048) : ∃ o, bytesZ c = o ∧ (cells (nums o)).toArray = #[.int .u8 (192 + c / 64), .int .u8 (128 + c % 64)] ∧ o.length = 2 := by
  refine ⟨[UInt8.ofNat (192 + c.toNat / 64), UInt8.ofNat (128 + c.toNat % 64)], ?_, ?_, rfl⟩
  · unfold bytesZ bytesN; rw [if_neg (by omega), if_neg (by omega), if_neg (by omega), if_pos (by omega)]
  · simp only [cells, nums, List.map_cons, List.map_nil]
    rw [u8n (by omega), u8n (by omega), show ((192 + c.toNat / 64 : Nat) : Int) = 192 + c / 64 by omega, show ((128 + c.toNat % 64 : Nat) : Int) = 128 + c % 64 by omega]
theorem bytesZ_3 {c : Int} (h0 : 2048 ≤ c) (h1 : c < 65536) (h2 : ¬ (55296 ≤ c ∧ c ≤ 57343)) : ∃ o, bytesZ c = o ∧ (cells (nums o)).toArray = #[.int .u8 (224 + c / 4096), .int .u8 (128 + c / 64 % 64), .int .u8 (128 + c % 64)] ∧ o.length = 3 := by
  refine ⟨[UInt8.ofNat (224 + c.toNat / 4096), UInt8.ofNat (128 + c.toNat / 64 % 64), UInt8.ofNat (128 + c.toNat % 64)], ?_, ?_, rfl⟩
  · unfold bytesZ bytesN; rw [if_neg (by omega), if_neg (by omega), if_neg (by omega), if_neg (by omega), if_pos (by omega)]
  · simp only [cells, nums, List.map_cons, List.map_nil]
    rw [u8n (by omega), u8n (by omega), u8n (by omega), show ((224 + c.toNat / 4096 : Nat) : Int) = 224 + c / 4096 by omega, show ((128 + c.toNat / 64 % 64 : Nat) : Int) = 128 + c / 64 % 64 by omega, show ((128 + c.toNat % 64 : Nat) : Int) = 128 + c % 64 by omega]
theorem bytesZ_4 {c : Int} (h0 : 65536 ≤ c) (h1 : c ≤ 1114111) : ∃ o, bytesZ c = o ∧ (cells (nums o)).toArray = #[.int .u8 (240 + c / 262144), .int .u8 (128 + c / 4096 % 64), .int .u8 (128 + c / 64 % 64), .int .u8 (128 + c % 64)] ∧ o.length = 4 := by
  refine ⟨[UInt8.ofNat (240 + c.toNat / 262144), UInt8.ofNat (128 + c.toNat / 4096 % 64), UInt8.ofNat (128 + c.toNat / 64 % 64), UInt8.ofNat (128 + c.toNat % 64)], ?_, ?_, rfl⟩
  · unfold bytesZ bytesN; rw [if_neg (by omega), if_neg (by omega), if_neg (by omega), if_neg (by omega), if_neg (by omega)]
  · simp only [cells, nums, List.map_cons, List.map_nil]
    rw [u8n (by omega), u8n (by omega), u8n (by omega), u8n (by omega), show ((240 + c.toNat / 262144 : Nat) : Int) = 240 + c / 262144 by omega, show ((128 + c.toNat / 4096 % 64 : Nat) : Int) = 128 + c / 4096 % 64 by omega, show ((128 + c.toNat / 64 % 64 : Nat) : Int) = 128 + c / 64 % 64 by omega, show ((128 + c.toNat % 64 : Nat) : Int) = 128 + c % 64 by omega]

def BytesOut (c : Int) (w : World) (e : Ending) (w' : World) : Prop := e = .returned (.string (S (bytesZ c))) ∧ (w' = w ∨ ∃ o, w' = w.alloc o)
theorem BytesOut.below {c : Int} {w w' : World} {e : Ending} (h : BytesOut c w e w') : Below w.heap.size w w' := by
  rcases h.2 with rfl | ⟨o, rfl⟩
  · exact Below.refl _ _
  · exact (Below.refl _ _).alloc (Nat.le_refl _) _
set_option maxHeartbeats 2000000 in
theorem bytes_any (c : Int) (w : World) : Calls Tryd.prog 98 #[.int .i64 c] w (BytesOut c w) := by
  by_cases h0 : c < 0
  · have HE := Lib.hid (bytesZ_neg (.inl h0))
    go_enter Tryd.func98, Tryd.ntmps98
    go_wp2
    go_ret
    exact ⟨by rw [HE.out]; rfl, .inl rfl⟩
  have h0' : 0 ≤ c := by omega
  have d0 : decide (c < 0) = false := by simpa using h0
  by_cases h1 : 1114111 < c
  · have HE := Lib.hid (bytesZ_neg (.inr (.inl h1)))
    go_enter Tryd.func98, Tryd.ntmps98
    go_wp2
    go_ret
    exact ⟨by rw [HE.out]; rfl, .inl rfl⟩
  have h1' : c ≤ 1114111 := by omega
  have d1 : decide (1114111 < c) = false := by simpa using h1
  by_cases h2 : 55296 ≤ c ∧ c ≤ 57343
  · obtain ⟨h2a, h2b⟩ := h2
    have HE := Lib.hid (bytesZ_neg (.inr (.inr ⟨h2a, h2b⟩)))
    go_enter Tryd.func98, Tryd.ntmps98
    go_wp2
    go_ret
    exact ⟨by rw [HE.out]; rfl, .inl rfl⟩
  by_cases h3 : c < 128
  · obtain ⟨o, ho, ha, hn⟩ := bytesZ_1 h0' h3
    have hstr := str_new w _ o _ ha.symm hn.symm
    have d2 : decide (55296 ≤ c) = false := by simp; omega
    have HE := Lib.hid ho
    clear ho ha hn h2
    go_enter Tryd.func98, Tryd.ntmps98
    go_wp2
    go_ret
    exact ⟨by rw [HE.out]; rfl, .inr ⟨_, rfl⟩⟩
  have d3 : decide (c < 128) = false := by simpa using h3
  by_cases h4 : c < 2048
  · obtain ⟨o, ho, ha, hn⟩ := bytesZ_2 (by omega) h4
    have hstr := str_new w _ o _ ha.symm hn.symm
    have d2 : decide (55296 ≤ c) = false := by simp; omega
    have HE := Lib.hid ho
    clear ho ha hn h2
    go_enter Tryd.func98, Tryd.ntmps98
    go_wp2
    go_ret
    exact ⟨by rw [HE.out]; rfl, .inr ⟨_, rfl⟩⟩
  have d4 : decide (c < 2048) = false := by simpa using h4
  have h5 : c < 55296 ∨ 57343 < c := by omega
  rcases h5 with h5 | h5
  · obtain ⟨o, ho, ha, hn⟩ := bytesZ_3 (c := c) (by omega) (by omega) h2
    have hstr := str_new w _ o _ ha.symm hn.symm
    have d2 : decide (55296 ≤ c) = false := by simp; omega
    have d5 : c < 65536 := by omega
    have HE := Lib.hid ho
    clear ho ha hn h2
    go_enter Tryd.func98, Tryd.ntmps98
    go_wp2
    go_ret
    exact ⟨by rw [HE.out]; rfl, .inr ⟨_, rfl⟩⟩
  have d5 : 55296 ≤ c := by omega
  have d6 : decide (c ≤ 57343) = false := by simp; omega
  by_cases h6 : c < 65536
  · obtain ⟨o, ho, ha, hn⟩ := bytesZ_3 (c := c) (by omega) h6 h2
    have hstr := str_new w _ o _ ha.symm hn.symm
    have HE := Lib.hid ho
    clear ho ha hn h2
    go_enter Tryd.func98, Tryd.ntmps98
    go_wp2
    go_ret
    exact ⟨by rw [HE.out]; rfl, .inr ⟨_, rfl⟩⟩
  · obtain ⟨o, ho, ha, hn⟩ := bytesZ_4 (c := c) (by omega) h1'
    have hstr := str_new w _ o _ ha.symm hn.symm
    have d7 : decide (c < 65536) = false := by simpa using h6
    have HE := Lib.hid ho
    clear ho ha hn h2
    go_enter Tryd.func98, Tryd.ntmps98
    go_wp2
    go_ret
    exact ⟨by rw [HE.out]; rfl, .inr ⟨_, rfl⟩⟩
end Go.Proofs.YtanddfkhokcepaaDoor

/- creelref03.First. -/
namespace Go.Proofs.YtanddfkhokcepaaDoor
set_option linter.unusedVariables false
open Go.RowKit

/-- The number out of the first byte's bits and the bytes 1 to k. -/
def part (base : Nat) (l : List UInt8) : Nat → Nat
  | 0 => base
  | k + 1 => part base l k * 64 + (l.getD (k + 1) 0).toNat % 64
theorem part_lt (base : Nat) (l : List UInt8) (h : base < 256) : ∀ k, part base l k < 256 * 64 ^ k
  | 0 => by simpa [part] using h
  | k + 1 => by
    have := part_lt base l h k
    unfold part
    rw [Nat.pow_succ]
    omega
theorem part_le {base : Nat} {l : List UInt8} {k : Nat} (h : base < 256) (hk : k ≤ 3) : part base l k ≤ 67108864 := by
  have := part_lt base l h k
  have h2 : 64 ^ k ≤ 64 ^ 3 := Nat.pow_le_pow_right (by omega) hk
  have : 256 * 64 ^ k ≤ 256 * 64 ^ 3 := Nat.mul_le_mul_left _ h2
  have : 256 * 64 ^ 3 = 67108864 := by decide
  omega
def baseOf (n : Nat) (b0 : Nat) : Nat := if n = 1 then b0 else if n = 2 then b0 % 32 else if n = 3 then b0 % 16 else b0 % 8
theorem part_val {n : Nat} {l : List UInt8} (h1 : 1 ≤ n) (h4 : n ≤ 4) : part (baseOf n (l.getD 0 0).toNat) l (n - 1) = val n l := by
  have hn : n = 1 ∨ n = 2 ∨ n = 3 ∨ n = 4 := by omega
  rcases hn with rfl | rfl | rfl | rfl <;> simp [part, baseOf, val]
theorem bytesZ_nat (n : Nat) : bytesZ (n : Int) = bytesN n := by
  unfold bytesZ
  rw [if_neg (by omega)]
  rfl
theorem good_bool {n : Nat} {l : List UInt8} (hn : n ≤ l.length) (h : GoodN n l) : ((S (bytesN (val n l))).toList == ((S l).extract 0 n).toList) = true := by
  rw [S_toList, S_extract, S_toList]
  have := h.2
  simp [this]
theorem bad_bool {n : Nat} {l : List UInt8} (hn : n ≤ l.length) (h : ¬ GoodN n l) : ((S (bytesN (val n l))).toList == ((S l).extract 0 n).toList) = false := by
  rw [S_toList, S_extract, S_toList]
  simp only [Nat.sub_zero, List.drop_zero, beq_eq_false_iff_ne]
  exact fun e => h ⟨hn, e⟩
theorem val_eq {k : IntKind} {a b : Int} (h : a = b) : Value.int k a = .int k b := by rw [h]
theorem two {B : Nat} {a w1 w2 : World} (h : Below B a w1) (hB : B ≤ a.heap.size) (k : Below w1.heap.size w1 w2) : Below B a w2 := h.trans (k.mono (Nat.le_trans hB h.size))
def FirstOut (l : List UInt8) (w : World) (e : Ending) (w' : World) : Prop := e = .returned (.tuple #[.int .i64 ((firstN l).1 : Int), .int .i64 ((firstN l).2 : Int)]) ∧ Below w.heap.size w w'
theorem firstOut_good {l : List UInt8} {n : Nat} {w w' : World} (h1 : 1 ≤ n) (h4 : n ≤ 4) (h : GoodN n l) (hb : Below w.heap.size w w') : FirstOut l w (.returned (.tuple #[.int .i64 ((val n l : Nat) : Int), .int .i64 (n : Int)])) w' := by
  unfold FirstOut
  rw [firstN_good h1 h4 h]
  exact ⟨rfl, hb⟩
theorem firstOut_none {l : List UInt8} {w w' : World} (h : ∀ n, 1 ≤ n → n ≤ 4 → ¬ GoodN n l) (hb : Below w.heap.size w w') : FirstOut l w (.returned (.tuple #[.int .i64 0, .int .i64 0])) w' := by
  unfold FirstOut
  rw [firstN_none h]
  exact ⟨rfl, hb⟩

set_option maxRecDepth 100000 in
set_option maxHeartbeats 2000000 in
theorem refFirst_any (l : List UInt8) (w : World) (hl : l.length ≤ 1000000) : Calls Tryd.prog 61 #[.string (S l)] w (FirstOut l w) := by
  obtain ⟨z, hz⟩ : ∃ z, S l = z := ⟨_, rfl⟩
  have hN : z.size = l.length := by rw [← hz, S_size]
  have hg : ∀ (i : Nat) (h : i < z.size), z[i] = l.getD i 0 := fun i h => by
    subst hz
    rw [S_get]
    rw [S_size] at h
    simp [List.getD, List.getElem?_eq_getElem h]
  rw [hz]
  have hz9 : z.size ≤ 1000000 := by omega
  have HZ := Lib.hid hz
  have HN := Lib.hid hN
  have HG := Lib.hid hg
  clear hz hN hg
  go_enter Tryd.func61, Tryd.ntmps61
  go_wp2
  go_loopw [4] (fun v wr => ∃ n : Int, v = .int .i64 n ∧ 1 ≤ n ∧ n ≤ 5 ∧ (∀ m : Nat, 1 ≤ m → (m : Int) < n → ¬ GoodN m l) ∧ Below w.heap.size w wr) (fun v _ => 5 - (intOf v).toNat)
  case atStart => exact ⟨1, rfl, by omega, by omega, fun m a b => by omega, Below.refl _ _⟩
  case round =>
    obtain ⟨n, rfl, h1, h5, hno, hbe⟩ := hrel
    have HNO := Lib.hid hno
    have HB := Lib.hid hbe
    clear hno hbe
    by_cases h4 : n ≤ 4
    · by_cases hfit : n ≤ z.size
      · have hz0 : 0 < z.size := by omega
        obtain ⟨b0, hb0⟩ : ∃ b0, z[0] = b0 := ⟨_, rfl⟩
        have lb0 := b0.toNat_lt
        have hgb : l.getD 0 0 = b0 := by rw [← hb0]; exact (HG.out 0 hz0).symm
        have HGB := Lib.hid hgb
        clear hgb
        have hn : n = 1 ∨ n = 2 ∨ n = 3 ∨ n = 4 := by omega
        rcases hn with rfl | rfl | rfl | rfl
        · have hf1 : (1 : Int) ≤ (z.size : Int) := by omega
          have hb9 : baseOf 1 b0.toNat < 256 := by unfold baseOf; simp; omega
          go_wp2
          go_loop [5, 6] (fun v i => ∃ k : Nat, i = .int .i64 ((k : Int) + 1) ∧ k + 1 ≤ 1 ∧ v = .int .i64 ((part (baseOf 1 b0.toNat) l k : Nat) : Int)) (fun _ i => 1 - (intOf i).toNat)
          case atStart => exact ⟨0, rfl, by omega, val_eq (by show _ = ((baseOf 1 b0.toNat : Nat) : Int); unfold baseOf; simp)⟩
          case round =>
            obtain ⟨k, rfl, hk, rfl⟩ := hrel
            have hp9 := part_le (l := l) hb9 (k := k) (by omega)
            by_cases hk2 : k + 1 < 1
            · omega
            · obtain rfl : k = 0 := by omega
              have hv : part (baseOf 1 b0.toNat) l 0 = val 1 l := by rw [← HGB.out]; exact part_val (n := 1) (by omega) (by omega)
              rw [hv] at hp9 ⊢
              have hk3 : decide (((0 : Nat) : Int) + 1 < 1) = false := by decide
              have hnl : 1 ≤ l.length := by have := HN.out; omega
              have hbz : bytesZ ((val 1 l : Nat) : Int) = bytesN (val 1 l) := bytesZ_nat _
              have HBZ := Lib.hid hbz
              clear hbz hv
              by_cases hg : GoodN 1 l
              · have he := good_bool hnl hg
                rw [HZ.out] at he
                have HGD := Lib.hid hg
                clear hg
                generalize hq : val 1 l = q at *
                have HQ := Lib.hid hq
                clear hq
                go_wp2_with fail
                go_region_held3 (fun _ => True) (trivial) ((go_at_call 98; refine (bytes_any _ _).mono ?_; intro e w' hb; have hb0 := hb.below; obtain ⟨rfl, _⟩ := hb; rw [HBZ.out]; have HB2 := Lib.hid hb0; clear hb0))
                all_goals
                  go_wp2
                  go_ret2
                  exact (HQ.out ▸ firstOut_good (n := 1) (by omega) (by omega) HGD.out (two HB.out.drew (Nat.le_refl _) HB2.out))
              · have he := bad_bool hnl hg
                rw [HZ.out] at he
                have F : ∀ m : Nat, 1 ≤ m → (m : Int) < 1 + 1 → ¬ GoodN m l := fun m a b g => by
                  by_cases hm : (m : Int) < 1
                  · exact HNO.out m a hm g
                  · obtain rfl : m = 1 := by omega
                    exact hg g
                have HF := Lib.hid F
                clear F hg
                generalize hq : val 1 l = q at *
                go_wp2_with fail
                go_region_held3 (fun _ => True) (trivial) ((go_at_call 98; refine (bytes_any _ _).mono ?_; intro e w' hb; have hb0 := hb.below; obtain ⟨rfl, _⟩ := hb; rw [HBZ.out]; have HB2 := Lib.hid hb0; clear hb0))
                all_goals
                  go_wp2
                  go_roundw
                  case rel => exact ⟨2, rfl, by omega, by omega, HF.out, two HB.out.drew (Nat.le_refl _) HB2.out⟩
                  case measure => simp [intOf]
        · have hf1 : (2 : Int) ≤ (z.size : Int) := by omega
          have hb9 : baseOf 2 b0.toNat < 256 := by unfold baseOf; simp; omega
          go_wp2
          go_loop [5, 6] (fun v i => ∃ k : Nat, i = .int .i64 ((k : Int) + 1) ∧ k + 1 ≤ 2 ∧ v = .int .i64 ((part (baseOf 2 b0.toNat) l k : Nat) : Int)) (fun _ i => 2 - (intOf i).toNat)
          case atStart => exact ⟨0, rfl, by omega, val_eq (by show _ = ((baseOf 2 b0.toNat : Nat) : Int); unfold baseOf; simp)⟩
          case round =>
            obtain ⟨k, rfl, hk, rfl⟩ := hrel
            have hp9 := part_le (l := l) hb9 (k := k) (by omega)
            by_cases hk2 : k + 1 < 2
            · have hkz : k + 1 < z.size := by omega
              obtain ⟨x, hx⟩ : ∃ x, z[k + 1] = x := ⟨_, rfl⟩
              have lx := x.toNat_lt
              have hpart : part (baseOf 2 b0.toNat) l (k + 1) = part (baseOf 2 b0.toNat) l k * 64 + x.toNat % 64 := by
                rw [← hx, HG.out (k + 1) hkz]; rfl
              have HP := Lib.hid hpart
              clear hpart
              generalize hq : part (baseOf 2 b0.toNat) l k = q at *
              have HQ := Lib.hid hq
              clear hq
              go_wp2
              go_round
              case rel => exact ⟨k + 1, by go_num, by omega, val_eq (by rw [HP.out]; omega)⟩
              case measure => simp [intOf]; omega
            · obtain rfl : k = 1 := by omega
              have hv : part (baseOf 2 b0.toNat) l 1 = val 2 l := by rw [← HGB.out]; exact part_val (n := 2) (by omega) (by omega)
              rw [hv] at hp9 ⊢
              have hk3 : decide (((1 : Nat) : Int) + 1 < 2) = false := by decide
              have hnl : 2 ≤ l.length := by have := HN.out; omega
              have hbz : bytesZ ((val 2 l : Nat) : Int) = bytesN (val 2 l) := bytesZ_nat _
              have HBZ := Lib.hid hbz
              clear hbz hv
              by_cases hg : GoodN 2 l
              · have he := good_bool hnl hg
                rw [HZ.out] at he
                have HGD := Lib.hid hg
                clear hg
                generalize hq : val 2 l = q at *
                have HQ := Lib.hid hq
                clear hq
                go_wp2_with fail
                go_region_held3 (fun _ => True) (trivial) ((go_at_call 98; refine (bytes_any _ _).mono ?_; intro e w' hb; have hb0 := hb.below; obtain ⟨rfl, _⟩ := hb; rw [HBZ.out]; have HB2 := Lib.hid hb0; clear hb0))
                all_goals
                  go_wp2
                  go_ret2
                  exact (HQ.out ▸ firstOut_good (n := 2) (by omega) (by omega) HGD.out (two HB.out.drew (Nat.le_refl _) HB2.out))
              · have he := bad_bool hnl hg
                rw [HZ.out] at he
                have F : ∀ m : Nat, 1 ≤ m → (m : Int) < 2 + 1 → ¬ GoodN m l := fun m a b g => by
                  by_cases hm : (m : Int) < 2
                  · exact HNO.out m a hm g
                  · obtain rfl : m = 2 := by omega
                    exact hg g
                have HF := Lib.hid F
                clear F hg
                generalize hq : val 2 l = q at *
                go_wp2_with fail
                go_region_held3 (fun _ => True) (trivial) ((go_at_call 98; refine (bytes_any _ _).mono ?_; intro e w' hb; have hb0 := hb.below; obtain ⟨rfl, _⟩ := hb; rw [HBZ.out]; have HB2 := Lib.hid hb0; clear hb0))
                all_goals
                  go_wp2
                  go_roundw
                  case rel => exact ⟨3, rfl, by omega, by omega, HF.out, two HB.out.drew (Nat.le_refl _) HB2.out⟩
                  case measure => simp [intOf]
        · have hf1 : (3 : Int) ≤ (z.size : Int) := by omega
          have hb9 : baseOf 3 b0.toNat < 256 := by unfold baseOf; simp; omega
          go_wp2
          go_loop [5, 6] (fun v i => ∃ k : Nat, i = .int .i64 ((k : Int) + 1) ∧ k + 1 ≤ 3 ∧ v = .int .i64 ((part (baseOf 3 b0.toNat) l k : Nat) : Int)) (fun _ i => 3 - (intOf i).toNat)
          case atStart => exact ⟨0, rfl, by omega, val_eq (by show _ = ((baseOf 3 b0.toNat : Nat) : Int); unfold baseOf; simp)⟩
          case round =>
            obtain ⟨k, rfl, hk, rfl⟩ := hrel
            have hp9 := part_le (l := l) hb9 (k := k) (by omega)
            by_cases hk2 : k + 1 < 3
            · have hkz : k + 1 < z.size := by omega
              obtain ⟨x, hx⟩ : ∃ x, z[k + 1] = x := ⟨_, rfl⟩
              have lx := x.toNat_lt
              have hpart : part (baseOf 3 b0.toNat) l (k + 1) = part (baseOf 3 b0.toNat) l k * 64 + x.toNat % 64 := by
                rw [← hx, HG.out (k + 1) hkz]; rfl
              have HP := Lib.hid hpart
              clear hpart
              generalize hq : part (baseOf 3 b0.toNat) l k = q at *
              have HQ := Lib.hid hq
              clear hq
              go_wp2
              go_round
              case rel => exact ⟨k + 1, by go_num, by omega, val_eq (by rw [HP.out]; omega)⟩
              case measure => simp [intOf]; omega
            · obtain rfl : k = 2 := by omega
              have hv : part (baseOf 3 b0.toNat) l 2 = val 3 l := by rw [← HGB.out]; exact part_val (n := 3) (by omega) (by omega)
              rw [hv] at hp9 ⊢
              have hk3 : decide (((2 : Nat) : Int) + 1 < 3) = false := by decide
              have hnl : 3 ≤ l.length := by have := HN.out; omega
              have hbz : bytesZ ((val 3 l : Nat) : Int) = bytesN (val 3 l) := bytesZ_nat _
              have HBZ := Lib.hid hbz
              clear hbz hv
              by_cases hg : GoodN 3 l
              · have he := good_bool hnl hg
                rw [HZ.out] at he
                have HGD := Lib.hid hg
                clear hg
                generalize hq : val 3 l = q at *
                have HQ := Lib.hid hq
                clear hq
                go_wp2_with fail
                go_region_held3 (fun _ => True) (trivial) ((go_at_call 98; refine (bytes_any _ _).mono ?_; intro e w' hb; have hb0 := hb.below; obtain ⟨rfl, _⟩ := hb; rw [HBZ.out]; have HB2 := Lib.hid hb0; clear hb0))
                all_goals
                  go_wp2
                  go_ret2
                  exact (HQ.out ▸ firstOut_good (n := 3) (by omega) (by omega) HGD.out (two HB.out.drew (Nat.le_refl _) HB2.out))
              · have he := bad_bool hnl hg
                rw [HZ.out] at he
                have F : ∀ m : Nat, 1 ≤ m → (m : Int) < 3 + 1 → ¬ GoodN m l := fun m a b g => by
                  by_cases hm : (m : Int) < 3
                  · exact HNO.out m a hm g
                  · obtain rfl : m = 3 := by omega
                    exact hg g
                have HF := Lib.hid F
                clear F hg
                generalize hq : val 3 l = q at *
                go_wp2_with fail
                go_region_held3 (fun _ => True) (trivial) ((go_at_call 98; refine (bytes_any _ _).mono ?_; intro e w' hb; have hb0 := hb.below; obtain ⟨rfl, _⟩ := hb; rw [HBZ.out]; have HB2 := Lib.hid hb0; clear hb0))
                all_goals
                  go_wp2
                  go_roundw
                  case rel => exact ⟨4, rfl, by omega, by omega, HF.out, two HB.out.drew (Nat.le_refl _) HB2.out⟩
                  case measure => simp [intOf]
        · have hf1 : (4 : Int) ≤ (z.size : Int) := by omega
          have hb9 : baseOf 4 b0.toNat < 256 := by unfold baseOf; simp; omega
          go_wp2
          go_loop [5, 6] (fun v i => ∃ k : Nat, i = .int .i64 ((k : Int) + 1) ∧ k + 1 ≤ 4 ∧ v = .int .i64 ((part (baseOf 4 b0.toNat) l k : Nat) : Int)) (fun _ i => 4 - (intOf i).toNat)
          case atStart => exact ⟨0, rfl, by omega, val_eq (by show _ = ((baseOf 4 b0.toNat : Nat) : Int); unfold baseOf; simp)⟩
          case round =>
            obtain ⟨k, rfl, hk, rfl⟩ := hrel
            have hp9 := part_le (l := l) hb9 (k := k) (by omega)
            by_cases hk2 : k + 1 < 4
            · have hkz : k + 1 < z.size := by omega
              obtain ⟨x, hx⟩ : ∃ x, z[k + 1] = x := ⟨_, rfl⟩
              have lx := x.toNat_lt
              have hpart : part (baseOf 4 b0.toNat) l (k + 1) = part (baseOf 4 b0.toNat) l k * 64 + x.toNat % 64 := by
                rw [← hx, HG.out (k + 1) hkz]; rfl
              have HP := Lib.hid hpart
              clear hpart
              generalize hq : part (baseOf 4 b0.toNat) l k = q at *
              have HQ := Lib.hid hq
              clear hq
              go_wp2
              go_round
              case rel => exact ⟨k + 1, by go_num, by omega, val_eq (by rw [HP.out]; omega)⟩
              case measure => simp [intOf]; omega
            · obtain rfl : k = 3 := by omega
              have hv : part (baseOf 4 b0.toNat) l 3 = val 4 l := by rw [← HGB.out]; exact part_val (n := 4) (by omega) (by omega)
              rw [hv] at hp9 ⊢
              have hk3 : decide (((3 : Nat) : Int) + 1 < 4) = false := by decide
              have hnl : 4 ≤ l.length := by have := HN.out; omega
              have hbz : bytesZ ((val 4 l : Nat) : Int) = bytesN (val 4 l) := bytesZ_nat _
              have HBZ := Lib.hid hbz
              clear hbz hv
              by_cases hg : GoodN 4 l
              · have he := good_bool hnl hg
                rw [HZ.out] at he
                have HGD := Lib.hid hg
                clear hg
                generalize hq : val 4 l = q at *
                have HQ := Lib.hid hq
                clear hq
                go_wp2_with fail
                go_region_held3 (fun _ => True) (trivial) ((go_at_call 98; refine (bytes_any _ _).mono ?_; intro e w' hb; have hb0 := hb.below; obtain ⟨rfl, _⟩ := hb; rw [HBZ.out]; have HB2 := Lib.hid hb0; clear hb0))
                all_goals
                  go_wp2
                  go_ret2
                  exact (HQ.out ▸ firstOut_good (n := 4) (by omega) (by omega) HGD.out (two HB.out.drew (Nat.le_refl _) HB2.out))
              · have he := bad_bool hnl hg
                rw [HZ.out] at he
                have F : ∀ m : Nat, 1 ≤ m → (m : Int) < 4 + 1 → ¬ GoodN m l := fun m a b g => by
                  by_cases hm : (m : Int) < 4
                  · exact HNO.out m a hm g
                  · obtain rfl : m = 4 := by omega
                    exact hg g
                have HF := Lib.hid F
                clear F hg
                generalize hq : val 4 l = q at *
                go_wp2_with fail
                go_region_held3 (fun _ => True) (trivial) ((go_at_call 98; refine (bytes_any _ _).mono ?_; intro e w' hb; have hb0 := hb.below; obtain ⟨rfl, _⟩ := hb; rw [HBZ.out]; have HB2 := Lib.hid hb0; clear hb0))
                all_goals
                  go_wp2
                  go_roundw
                  case rel => exact ⟨5, rfl, by omega, by omega, HF.out, two HB.out.drew (Nat.le_refl _) HB2.out⟩
                  case measure => simp [intOf]
      · have hd : decide (n ≤ (z.size : Int)) = false := by simp; omega
        have F : ∀ m, 1 ≤ m → m ≤ 4 → ¬ GoodN m l := fun m a b g => by
          by_cases hm : (m : Int) < n
          · exact HNO.out m a hm g
          · have := g.1; have := HN.out; omega
        have HF := Lib.hid F
        clear F
        go_wp2
        go_ret2
        exact firstOut_none HF.out HB.out
    · have hd : decide (n ≤ 4) = false := by simp; omega
      have F : ∀ m : Nat, 1 ≤ m → m ≤ 4 → ¬ GoodN m l := fun m a b => HNO.out m a (by omega)
      have HF := Lib.hid F
      clear F
      go_wp2
      go_ret2
      exact firstOut_none HF.out HB.out
end Go.Proofs.YtanddfkhokcepaaDoor
