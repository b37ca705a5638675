/- What the operators make of numbers: comparisons with a sign and without, quotients, shifts, turns: plain functions of numbers, and that the reference's bits make the same. No walk here. -/
import Derived.Test.YtfjlknanaempdaaDoorZb01
import Derived.Laws.BitsAllLaws
import Derived.Test.YtfjlknanaempdaaDoorZb02
import Derived.Deep.QuietTactic
import Derived.Deep.CutBlock
import Derived.Deep.DeepCutAuto
import Derived.WalkLawsBesides
import Derived.BigQuiet
import Derived.LoopTactic
import Derived.Deep.DeepMust
namespace Go.Proofs.YtfjlknanaempdaaDoor
open Go.RowKit
set_option linter.unusedVariables false

/-- A number of n bits, with a sign. -/
def sg (n v : Nat) : Int := if 2 ^ n ≤ 2 * v then (v : Int) - 2 ^ n else v
/-- What the comparisons ask of two numbers. -/
def cmpN (n k v u : Nat) : Bool :=
  if k = 0 then decide (v = u) else if k = 1 then !decide (v = u) else if k = 2 then decide (sg n v < sg n u) else if k = 3 then decide (v < u) else
    if k = 4 then decide (sg n u < sg n v) else if k = 5 then decide (u < v) else if k = 6 then decide (sg n v ≤ sg n u) else if k = 7 then decide (v ≤ u) else
      if k = 8 then decide (sg n u ≤ sg n v) else decide (u ≤ v)
section
variable {n v u : Nat}
end
/-- The quotients: div_s, div_u, rem_s, rem_u: the number, and how it ends. -/
def quoN (n k v u : Nat) : Nat × Int :=
  if u = 0 then (0, 61) else if k = 0 then (if v = 2 ^ (n - 1) ∧ u = 2 ^ n - 1 then (0, 62) else (((sg n v).tdiv (sg n u) % 2 ^ n).toNat, 0)) else
    if k = 1 then (v / u, 0) else if k = 2 then (((sg n v).tmod (sg n u) % 2 ^ n).toNat, 0) else (v % u, 0)
section
variable {n v u : Nat}
theorem sg_zero (hv : v < 2 ^ n) : sg n v = 0 ↔ v = 0 := by
  have e : ((2 ^ n : Nat) : Int) = (2 : Int) ^ n := by norm_cast
  unfold sg
  rw [← e]
  generalize 2 ^ n = m at *
  split <;> omega
end
section
variable {n v u : Nat}
/-- A number turned up by k places. -/
def rotN (n v k : Nat) : Nat := v * 2 ^ k % 2 ^ n + v / 2 ^ (n - k)
/-- or of what does not meet is a sum. -/
theorem or_rot (hv : v < 2 ^ n) {k : Nat} (hk : k < n) : (v * 2 ^ k % 2 ^ n) ||| (v / 2 ^ (n - k)) = rotN n v k := by
  have e2 : 2 ^ n = 2 ^ k * 2 ^ (n - k) := by rw [← Nat.pow_add]; congr 1; omega
  refine Go.nat_join k _ _ ?_ ?_
  · rw [e2, Nat.mul_comm v, Nat.mul_mod_mul_left]; exact Nat.mul_mod_right _ _
  · exact Nat.div_lt_of_lt_mul (by rw [Nat.mul_comm, ← e2]; exact hv)
end
/-- The arithmetic: add, sub, mul, div_s, div_u, rem_s, rem_u, and, or, xor, shl, shr_s, shr_u, rotl, rotr. -/
def arN (n k v u : Nat) : Nat × Int :=
  match k with
  | 0 => ((v + u) % 2 ^ n, 0)
  | 1 => ((v + (2 ^ n - u)) % 2 ^ n, 0)
  | 2 => (v * u % 2 ^ n, 0)
  | 3 => quoN n 0 v u
  | 4 => quoN n 1 v u
  | 5 => quoN n 2 v u
  | 6 => quoN n 3 v u
  | 7 => ((v &&& u) % 2 ^ n, 0)
  | 8 => ((v ||| u) % 2 ^ n, 0)
  | 9 => ((v ^^^ u) % 2 ^ n, 0)
  | 10 => (v * 2 ^ (u % n) % 2 ^ n, 0)
  | 11 => ((sg n v / 2 ^ (u % n) % 2 ^ n).toNat, 0)
  | 12 => (v / 2 ^ (u % n), 0)
  | 13 => (rotN n v (u % n), 0)
  | _ => (rotN n v ((n - u % n) % n), 0)
/-- What an instruction makes of two numbers: the comparisons from cb on, the arithmetic from ab on. -/
def twoN (n cb ab op v u : Nat) : Nat × Int :=
  if cb ≤ op ∧ op ≤ cb + 9 then ((cmpN n (op - cb) v u).toNat, 0) else if ab ≤ op ∧ op ≤ ab + 14 then arN n (op - ab) v u else (0, 9)
end Go.Proofs.YtfjlknanaempdaaDoor

/- The program's truth, rotate, quotient, divide, shift of 32 bits, as plain functions of numbers. (By gen/genAl.py.) -/
namespace Go.Proofs.YtfjlknanaempdaaDoor
open Go.RowKit
set_option linter.unusedVariables false
set_option maxRecDepth 100000
theorem altruth (b : Bool) (w : World) : Calls Tryd.prog 8 #[.bool b] w fun e w' => e = .returned (.int .u32 ((b.toNat : Nat))) ∧ w = w' := by
  cases b
  · go_enter Tryd.func8, Tryd.ntmps8
    go_wp2
    go_ret
    exact ⟨rfl, rfl⟩
  · go_enter Tryd.func8, Tryd.ntmps8
    go_wp2
    go_ret
    exact ⟨rfl, rfl⟩
theorem alwr {v : Nat} (hv : v < 4294967296) : wrap32 (v : Int) = sg 32 v := by
  unfold sg wrap32
  rw [show (2 : Int) ^ 32 = 4294967296 by decide, show 2 ^ 32 = 4294967296 by decide]
  split <;> omega
theorem alrt (k : Int) : bits .and .u64 (IntKind.u64.wrap k) 31 = k % 32 := by
  have h : (BitVec.ofInt 64 31).toNat = 2 ^ 5 - 1 := by decide
  have key : (BitVec.ofInt 64 (IntKind.u64.wrap k) &&& BitVec.ofInt 64 31).toNat = (IntKind.u64.wrap k % ((2 ^ 64 : Nat) : Int)).toNat % 2 ^ 5 := by
    rw [BitVec.toNat_and, BitVec.toNat_ofInt, h, Nat.and_two_pow_sub_one_eq_mod]
  show IntKind.u64.wrap ((BitVec.ofInt 64 (IntKind.u64.wrap k) &&& BitVec.ofInt 64 31).toNat : Nat) = k % 32
  rw [key, IntKind.wrap_u64, IntKind.wrap_u64]
  omega
theorem alrot {w : World} (v s : Nat) (k : Int) (hv : v < 4294967296) (hs : s < 32) (hk : k % 32 = s) : Calls Tryd.prog 19 #[.int .u32 v, .int .i64 k] w fun e w' => e = .returned (.int .u32 ((rotN 32 v s : Nat))) ∧ w = w' := by
  have es := (alrt k).trans hk
  have e3 : IntKind.u64.wrap (32 - (s : Int)) = ((32 - s : Nat) : Int) := by rw [IntKind.wrap_u64]; omega
  have q : bits .or .u32 (((v : Int) * 2 ^ s) % 4294967296) ((v : Int) / 2 ^ (32 - s)) = ((rotN 32 v s : Nat) : Int) := by
    have h := or_rot (n := 32) (v := v) hv hs
    rw [← h]
    have p1 : v * 2 ^ s % 4294967296 < 4294967296 := Nat.mod_lt _ (by decide)
    have p2 : v / 2 ^ (32 - s) < 4294967296 := Nat.lt_of_le_of_lt (Nat.div_le_self _ _) hv
    rw [← u32_or_nat _ _ p1 p2, Int.natCast_emod, Int.natCast_mul, Int.natCast_ediv, Int.natCast_pow, Int.natCast_pow]
    rfl
  go_enter Tryd.func19, Tryd.ntmps19
  go_wp2
  go_ret
  first | exact ⟨rfl, rfl⟩ | exact ⟨congrArg (fun x => Ending.returned (Value.int .u32 x)) q, rfl⟩
theorem alquoA {w : World} : Calls Tryd.prog 18 #[.int .i32 (-2147483648), .int .i32 (-1)] w fun e w' => e = .returned (.tuple #[.int .u32 (0), .int .i64 (62)]) ∧ w = w' := by
  go_enter Tryd.func18, Tryd.ntmps18
  go_wp2
  go_ret2
  exact ⟨rfl, rfl⟩
theorem alquoB {w : World} (x y : Int) (h : ¬ (x = -2147483648 ∧ y = -1)) (hy : y ≠ 0) : Calls Tryd.prog 18 #[.int .i32 x, .int .i32 y] w fun e w' => e = .returned (.tuple #[.int .u32 (x.tdiv y % 4294967296), .int .i64 (0)]) ∧ w = w' := by
  have d0 : (y == 0) = false := by simp; omega
  have q : (wrap32 (x.tdiv y)) % 4294967296 = x.tdiv y % 4294967296 := by unfold wrap32; omega
  by_cases hx : x = -2147483648
  · have d1 : (x == -2147483648) = true := by simp; omega
    have d2 : (y == -1) = false := by simp; omega
    clear hx h
    go_enter Tryd.func18, Tryd.ntmps18
    go_wp2
    go_ret2
    first | exact ⟨rfl, rfl⟩ | exact ⟨congrArg (fun z => Ending.returned (Value.tuple #[Value.int .u32 z, Value.int .i64 0])) q, rfl⟩
  · have d1 : (x == -2147483648) = false := by simp; omega
    clear hx h
    go_enter Tryd.func18, Tryd.ntmps18
    go_wp2
    go_ret2
    first | exact ⟨rfl, rfl⟩ | exact ⟨congrArg (fun z => Ending.returned (Value.tuple #[Value.int .u32 z, Value.int .i64 0])) q, rfl⟩
theorem aldiv0 {w : World} (v u : Nat) (hv : v < 4294967296) (hu : u < 4294967296) : Calls Tryd.prog 14 #[.int .u8 109, .int .u32 v, .int .u32 u] w fun e w' => e = .returned (.tuple #[.int .u32 ((quoN 32 0 v u).1), .int .i64 ((quoN 32 0 v u).2)]) ∧ w = w' := by
  by_cases h0 : u = 0
  · subst h0
    go_enter Tryd.func14, Tryd.ntmps14
    go_wp2
    go_ret2
    exact ⟨rfl, rfl⟩
  have d0 : ((u : Int) == 0) = false := by simp; omega
  have ev := alwr hv
  have eu := alwr hu
  have hz : sg 32 u ≠ 0 := fun h => h0 ((sg_zero (n := 32) hu).1 h)
  have c1 : sg 32 v = -2147483648 ↔ v = 2147483648 := by unfold sg; rw [show (2 : Int) ^ 32 = 4294967296 by decide, show 2 ^ 32 = 4294967296 by decide]; split <;> omega
  have c2 : sg 32 u = -1 ↔ u = 4294967295 := by unfold sg; rw [show (2 : Int) ^ 32 = 4294967296 by decide, show 2 ^ 32 = 4294967296 by decide]; split <;> omega
  by_cases hc : v = 2147483648 ∧ u = 4294967295
  · have hr : quoN 32 0 v u = (0, 62) := by unfold quoN; rw [if_neg h0, if_pos rfl, if_pos hc]
    rw [hr]
    rw [c1.2 hc.1] at ev
    rw [c2.2 hc.2] at eu
    clear hr c1 c2 hc
    go_enter Tryd.func14, Tryd.ntmps14
    go_wp2_with (go_at_call 18; (with_reducible refine alquoA.mono ?_); rintro e w0 ⟨rfl, rfl⟩)
    go_ret2
    exact ⟨rfl, rfl⟩
  · have hr : quoN 32 0 v u = ((sg 32 v).tdiv (sg 32 u) % 2 ^ 32 |>.toNat, 0) := by unfold quoN; rw [if_neg h0, if_pos rfl, if_neg hc]
    rw [hr]
    have HQ := Lib.hid (alquoB (w := w) (sg 32 v) (sg 32 u) (fun h => hc ⟨c1.1 h.1, c2.1 h.2⟩) hz)
    have q : (sg 32 v).tdiv (sg 32 u) % 4294967296 = ((((sg 32 v).tdiv (sg 32 u) % 2 ^ 32).toNat : Nat) : Int) := by rw [show (2 : Int) ^ 32 = 4294967296 by decide]; omega
    obtain ⟨r, hr2⟩ : ∃ r : Nat, r = ((sg 32 v).tdiv (sg 32 u) % 2 ^ 32).toNat := ⟨_, rfl⟩
    rw [← hr2] at q ⊢
    clear hr c1 c2 hc hr2
    generalize sg 32 v = x at *
    generalize sg 32 u = y at *
    go_enter Tryd.func14, Tryd.ntmps14
    go_wp2_with (go_at_call 18; (with_reducible refine HQ.out.mono ?_); rintro e w0 ⟨rfl, rfl⟩)
    go_ret2
    first | exact ⟨rfl, rfl⟩ | exact ⟨congrArg (fun z => Ending.returned (Value.tuple #[Value.int .u32 z, Value.int .i64 0])) q, rfl⟩
theorem aldiv1 {w : World} (v u : Nat) (hv : v < 4294967296) (hu : u < 4294967296) : Calls Tryd.prog 14 #[.int .u8 110, .int .u32 v, .int .u32 u] w fun e w' => e = .returned (.tuple #[.int .u32 ((quoN 32 1 v u).1), .int .i64 ((quoN 32 1 v u).2)]) ∧ w = w' := by
  by_cases h0 : u = 0
  · subst h0
    go_enter Tryd.func14, Tryd.ntmps14
    go_wp2
    go_ret2
    exact ⟨rfl, rfl⟩
  have d0 : ((u : Int) == 0) = false := by simp; omega
  have q : ((v : Int) / (u : Int)) % 4294967296 = (((quoN 32 1 v u).1 : Nat) : Int) := by
    unfold quoN
    rw [if_neg h0]
    have h := Nat.div_le_self v u
    show _ = ((v / u : Nat) : Int)
    rw [← Int.natCast_ediv]
    generalize v / u = d at *
    omega
  have q2 : (quoN 32 1 v u).2 = 0 := by unfold quoN; rw [if_neg h0]; rfl
  rw [q2]
  go_enter Tryd.func14, Tryd.ntmps14
  go_wp2
  go_ret2
  first | exact ⟨rfl, rfl⟩ | exact ⟨congrArg (fun z => Ending.returned (Value.tuple #[Value.int .u32 z, Value.int .i64 0])) q, rfl⟩
theorem aldiv2 {w : World} (v u : Nat) (hv : v < 4294967296) (hu : u < 4294967296) : Calls Tryd.prog 14 #[.int .u8 111, .int .u32 v, .int .u32 u] w fun e w' => e = .returned (.tuple #[.int .u32 ((quoN 32 2 v u).1), .int .i64 ((quoN 32 2 v u).2)]) ∧ w = w' := by
  by_cases h0 : u = 0
  · subst h0
    go_enter Tryd.func14, Tryd.ntmps14
    go_wp2
    go_ret2
    exact ⟨rfl, rfl⟩
  have d0 : ((u : Int) == 0) = false := by simp; omega
  have ev := alwr hv
  have eu := alwr hu
  have hz : sg 32 u ≠ 0 := fun h => h0 ((sg_zero (n := 32) hu).1 h)
  have hr : quoN 32 2 v u = ((sg 32 v).tmod (sg 32 u) % 2 ^ 32 |>.toNat, 0) := by unfold quoN; rw [if_neg h0]; rfl
  rw [hr]
  have q : ((sg 32 v).tmod (sg 32 u)) % 4294967296 = ((((sg 32 v).tmod (sg 32 u) % 2 ^ 32).toNat : Nat) : Int) := by rw [show (2 : Int) ^ 32 = 4294967296 by decide]; omega
  obtain ⟨r, hr2⟩ : ∃ r : Nat, r = ((sg 32 v).tmod (sg 32 u) % 2 ^ 32).toNat := ⟨_, rfl⟩
  rw [← hr2] at q ⊢
  clear hr hr2
  generalize sg 32 v = x at *
  generalize sg 32 u = y at *
  have d1 : (y == 0) = false := by simp; omega
  go_enter Tryd.func14, Tryd.ntmps14
  go_wp2
  go_ret2
  first | exact ⟨rfl, rfl⟩ | exact ⟨congrArg (fun z => Ending.returned (Value.tuple #[Value.int .u32 z, Value.int .i64 0])) q, rfl⟩
theorem aldiv3 {w : World} (v u : Nat) (hv : v < 4294967296) (hu : u < 4294967296) : Calls Tryd.prog 14 #[.int .u8 112, .int .u32 v, .int .u32 u] w fun e w' => e = .returned (.tuple #[.int .u32 ((quoN 32 3 v u).1), .int .i64 ((quoN 32 3 v u).2)]) ∧ w = w' := by
  by_cases h0 : u = 0
  · subst h0
    go_enter Tryd.func14, Tryd.ntmps14
    go_wp2
    go_ret2
    exact ⟨rfl, rfl⟩
  have d0 : ((u : Int) == 0) = false := by simp; omega
  have q : (v : Int) % (u : Int) = (((quoN 32 3 v u).1 : Nat) : Int) := by
    unfold quoN
    rw [if_neg h0]
    have h := Nat.mod_lt v (show 0 < u by omega)
    show _ = ((v % u : Nat) : Int)
    rw [← Int.natCast_emod]
  have q2 : (quoN 32 3 v u).2 = 0 := by unfold quoN; rw [if_neg h0]; rfl
  rw [q2]
  go_enter Tryd.func14, Tryd.ntmps14
  go_wp2
  go_ret2
  first | exact ⟨rfl, rfl⟩ | exact ⟨congrArg (fun z => Ending.returned (Value.tuple #[Value.int .u32 z, Value.int .i64 0])) q, rfl⟩
theorem alsh0 {w : World} (v u : Nat) (hv : v < 4294967296) (hu : u < 32) : Calls Tryd.prog 15 #[.int .u8 116, .int .u32 v, .int .u32 u] w fun e w' => e = .returned (.int .u32 ((v * 2 ^ u % 4294967296 : Nat))) ∧ w = w' := by
  have q : ((v : Int) * 2 ^ u) % 4294967296 = ((v * 2 ^ u % 4294967296 : Nat) : Int) := by rw [Int.natCast_emod, Int.natCast_mul, Int.natCast_pow]; rfl
  go_enter Tryd.func15, Tryd.ntmps15
  go_wp2
  go_ret
  first | exact ⟨rfl, rfl⟩ | exact ⟨congrArg (fun x => Ending.returned (Value.int .u32 x)) q, rfl⟩
theorem alsh1 {w : World} (v u : Nat) (hv : v < 4294967296) (hu : u < 32) : Calls Tryd.prog 15 #[.int .u8 117, .int .u32 v, .int .u32 u] w fun e w' => e = .returned (.int .u32 (((sg 32 v / 2 ^ u % 4294967296).toNat : Nat))) ∧ w = w' := by
  have ev := alwr hv
  have q : (sg 32 v / 2 ^ u) % 4294967296 = (((sg 32 v / 2 ^ u % 4294967296).toNat : Nat) : Int) := by omega
  obtain ⟨r, hr2⟩ : ∃ r : Nat, r = (sg 32 v / 2 ^ u % 4294967296).toNat := ⟨_, rfl⟩
  rw [← hr2] at q ⊢
  clear hr2
  generalize sg 32 v = x at *
  go_enter Tryd.func15, Tryd.ntmps15
  go_wp2
  go_ret
  first | exact ⟨rfl, rfl⟩ | exact ⟨congrArg (fun x => Ending.returned (Value.int .u32 x)) q, rfl⟩
theorem alsh2 {w : World} (v u : Nat) (hv : v < 4294967296) (hu : u < 32) : Calls Tryd.prog 15 #[.int .u8 118, .int .u32 v, .int .u32 u] w fun e w' => e = .returned (.int .u32 ((v / 2 ^ u : Nat))) ∧ w = w' := by
  obtain ⟨r, hr2⟩ : ∃ r : Nat, r = v / 2 ^ u := ⟨_, rfl⟩
  have q : (v : Int) / 2 ^ u = (r : Int) := by rw [hr2, Int.natCast_ediv, Int.natCast_pow]; rfl
  rw [← hr2]
  clear hr2
  go_enter Tryd.func15, Tryd.ntmps15
  go_wp2
  go_ret
  first | exact ⟨rfl, rfl⟩ | exact ⟨congrArg (fun x => Ending.returned (Value.int .u32 x)) q, rfl⟩
theorem alsh3 {w : World} (v u : Nat) (hv : v < 4294967296) (hu : u < 32) : Calls Tryd.prog 15 #[.int .u8 119, .int .u32 v, .int .u32 u] w fun e w' => e = .returned (.int .u32 ((rotN 32 v u : Nat))) ∧ w = w' := by
  have HR := Lib.hid (alrot (w := w) v u (u : Int) hv hu (by omega))
  have e6 : wrap64 (u : Int) = u := by unfold wrap64; omega
  go_enter Tryd.func15, Tryd.ntmps15
  go_wp2_with (go_at_call 19; (with_reducible refine HR.out.mono ?_); rintro e w0 ⟨rfl, rfl⟩)
  go_ret
  exact ⟨rfl, rfl⟩
theorem alsh4 {w : World} (v u : Nat) (hv : v < 4294967296) (hu : u < 32) : Calls Tryd.prog 15 #[.int .u8 120, .int .u32 v, .int .u32 u] w fun e w' => e = .returned (.int .u32 ((rotN 32 v ((32 - u) % 32) : Nat))) ∧ w = w' := by
  have HR := Lib.hid (alrot (w := w) v ((32 - u) % 32) (-(u : Int)) hv (by omega) (by omega))
  have e4 : wrap64 (-(u : Int)) = -(u : Int) := by unfold wrap64; omega
  have e5 : IntKind.i64.wrap (-(u : Int)) = -(u : Int) := by simp only [IntKind.wrap, IntKind.bits, IntKind.signed]; simp; omega
  have e6 : wrap64 (u : Int) = u := by unfold wrap64; omega
  go_enter Tryd.func15, Tryd.ntmps15
  go_wp2_with (go_at_call 19; (with_reducible refine HR.out.mono ?_); rintro e w0 ⟨rfl, rfl⟩)
  go_ret
  exact ⟨rfl, rfl⟩
end Go.Proofs.YtfjlknanaempdaaDoor
