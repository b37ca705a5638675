/- What the operators make of numbers: comparisons with a sign and without, quotients, shifts, turns: plain functions of numbers, and that the reference's bits make the same. No walk here. -/
import Derived.Test.YtjgdfajooccalaaDoorZd01
import Derived.Laws.BitsAllLaws
import Derived.Lib.AppendStr
import Derived.Deep.RegionHeld3
import Derived.Deep.QuietTactic
import Derived.Deep.CutBlock
import Derived.Deep.DeepCutAuto
import Derived.WalkLawsBesides
import Derived.BigQuiet
import Derived.LoopTactic
import Derived.Deep.DeepMust
import Derived.Lib.BitFns
import Derived.Test.YtjgdfajooccalaaDoorShelf
import Derived.Lib.Tables
import Derived.Lib.TrailingZeros
import Derived.Shelf.Spec.TrailingZeros
import Derived.Test.YtjgdfajooccalaaDoorTie
import Derived.Lib.LaidIn
import Derived.Lib.LaidTab
import Derived.Lib.LaidU8
import Derived.LaidMore
import Derived.MakeChecks
import Derived.Stop.Joined
import Derived.OpenShut
namespace Go.Proofs.YtjgdfajooccalaaDoor
open Go.RowKit
set_option linter.unusedVariables false

/-- A number of n bits, with a sign. -/
def sg (n v : Nat) : Int := if 2 ^ n ≤ 2 * v then (v : Int) - 2 ^ n else v
/-- What the comparisons ask of two numbers. -/
def cmpN (n k v u : Nat) : Bool :=
  if k = 0 then decide (v = u) else if k = 1 then !decide (v = u) else if k = 2 then decide (sg n v < sg n u) else if k = 3 then decide (v < u) else
    if k = 4 then decide (sg n u < sg n v) else if k = 5 then decide (u < v) else if k = 6 then decide (sg n v ≤ sg n u) else if k = 7 then decide (v ≤ u) else
      if k = 8 then decide (sg n u ≤ sg n v) else decide (u ≤ v)
section
variable {n v u : Nat}
end
/-- The quotients: div_s, div_u, rem_s, rem_u: the number, and how it ends. -/
def quoN (n k v u : Nat) : Nat × Int :=
  if u = 0 then (0, 61) else if k = 0 then (if v = 2 ^ (n - 1) ∧ u = 2 ^ n - 1 then (0, 62) else (((sg n v).tdiv (sg n u) % 2 ^ n).toNat, 0)) else
    if k = 1 then (v / u, 0) else if k = 2 then (((sg n v).tmod (sg n u) % 2 ^ n).toNat, 0) else (v % u, 0)
section
variable {n v u : Nat}
theorem sg_zero (hv : v < 2 ^ n) : sg n v = 0 ↔ v = 0 := by
  have e : ((2 ^ n : Nat) : Int) = (2 : Int) ^ n := by norm_cast
  unfold sg
  rw [← e]
  generalize 2 ^ n = m at *
  split <;> omega
end
section
variable {n v u : Nat}
/-- A number turned up by k places. -/
def rotN (n v k : Nat) : Nat := v * 2 ^ k % 2 ^ n + v / 2 ^ (n - k)
/-- or of what does not meet is a sum. -/
theorem or_rot (hv : v < 2 ^ n) {k : Nat} (hk : k < n) : (v * 2 ^ k % 2 ^ n) ||| (v / 2 ^ (n - k)) = rotN n v k := by
  have e2 : 2 ^ n = 2 ^ k * 2 ^ (n - k) := by rw [← Nat.pow_add]; congr 1; omega
  refine Go.nat_join k _ _ ?_ ?_
  · rw [e2, Nat.mul_comm v, Nat.mul_mod_mul_left]; exact Nat.mul_mod_right _ _
  · exact Nat.div_lt_of_lt_mul (by rw [Nat.mul_comm, ← e2]; exact hv)
end
/-- The arithmetic: add, sub, mul, div_s, div_u, rem_s, rem_u, and, or, xor, shl, shr_s, shr_u, rotl, rotr. -/
def arN (n k v u : Nat) : Nat × Int :=
  match k with
  | 0 => ((v + u) % 2 ^ n, 0)
  | 1 => ((v + (2 ^ n - u)) % 2 ^ n, 0)
  | 2 => (v * u % 2 ^ n, 0)
  | 3 => quoN n 0 v u
  | 4 => quoN n 1 v u
  | 5 => quoN n 2 v u
  | 6 => quoN n 3 v u
  | 7 => ((v &&& u) % 2 ^ n, 0)
  | 8 => ((v ||| u) % 2 ^ n, 0)
  | 9 => ((v ^^^ u) % 2 ^ n, 0)
  | 10 => (v * 2 ^ (u % n) % 2 ^ n, 0)
  | 11 => ((sg n v / 2 ^ (u % n) % 2 ^ n).toNat, 0)
  | 12 => (v / 2 ^ (u % n), 0)
  | 13 => (rotN n v (u % n), 0)
  | _ => (rotN n v ((n - u % n) % n), 0)
/-- What an instruction makes of two numbers: the comparisons from cb on, the arithmetic from ab on. -/
def twoN (n cb ab op v u : Nat) : Nat × Int :=
  if cb ≤ op ∧ op ≤ cb + 9 then ((cmpN n (op - cb) v u).toNat, 0) else if ab ≤ op ∧ op ≤ ab + 14 then arN n (op - ab) v u else (0, 9)
end Go.Proofs.YtjgdfajooccalaaDoor

/- Rows of bytes of the call's own, as lists of bytes: append of a new block, of a string, of what lies somewhere; string(b). -/
namespace Go.Proofs.YtjgdfajooccalaaDoor
set_option linter.unusedVariables false
open Go.RowKit

/-- A row of the call's own that reads as these bytes. -/
def Row (w : World) (base : Nat) (v : Value) (xs : List UInt8) : Prop := w.ownsRow base 5 1 v xs.length (cells (nums xs))
theorem Row.nil (w : World) (base : Nat) : Row w base (.slice none 0 0) [] := World.ownsRow_nil w base _ 1
theorem Row.later {w w' : World} {base : Nat} {v : Value} {xs : List UInt8} (h : Row w base v xs) (hb : Below w.heap.size w w') : Row w' base v xs :=
  World.ownsRow.kept h (gb_of_below none hb) (by cases v.ownBlock with
    | none => exact .inl rfl
    | some k => exact .inr (by simp))
theorem Row.alloc {w : World} {base : Nat} {v : Value} {xs : List UInt8} (h : Row w base v xs) (o : Obj) : Row (w.alloc o) base v xs := World.ownsRow.alloc h o
theorem Row.mono {w : World} {base base' : Nat} {v : Value} {xs : List UInt8} (h : Row w base v xs) (hb : base' ≤ base) : Row w base' v xs := by
  obtain ⟨h1, h2⟩ := h
  refine ⟨h1, ?_⟩
  rcases h2 with h2 | ⟨g, cap, cur, e, hg, r⟩
  · exact .inl h2
  · exact .inr ⟨g, cap, cur, e, Nat.le_trans hb hg, r⟩
theorem Row.below {w w' : World} {base : Nat} {v : Value} {xs : List UInt8} (h : Row w base v xs) (hB : base ≤ w.heap.size) (hg : w.grownBy w' v.ownBlock) : Below base w w' :=
  Below.grown (Below.refl _ _) hg hB (fun k hk => (World.ownsRow.lt h k hk).1)
/-- A block of bytes, all of them read; H is its number as the walk writes it. -/
theorem Row.made (w : World) (xs : List UInt8) (base H : Nat) (hH : w.heap.size = H) (hb : base ≤ H) (hl : xs.length ≤ 40000000) :
    Row (w.alloc (.cells (cells (nums xs)).toArray 5)) base (.slice (some ⟨H, 0, none⟩) xs.length xs.length) xs := by
  subst hH
  have hn : (cells (nums xs)).length = xs.length := by rw [cells_length, nums_length]
  refine ⟨by omega, .inr ⟨w.heap.size, xs.length, (cells (nums xs)).toArray, rfl, hb, heap_alloc_new w _, Nat.le_refl _, by unfold maxLen; omega, by simp [hn], ?_⟩⟩
  rw [List.take_of_length_le (by simp [hn])]

section
variable {w : World} {ops : Array Oper} {rest : List Oper} {o : Oper} {a : Act} {Q : Exit → Act → World → Prop} {K : Act → World → Prop}
end

end Go.Proofs.YtjgdfajooccalaaDoor

/- A region that draws its order, walked step by step: what is held of the world may grow on the way. -/
namespace Go.Proofs.YtjgdfajooccalaaDoor
set_option linter.unusedVariables false
open Go.RowKit

section
variable {P : Program} {ops : Array Oper} {Q : Exit → Act → World → Prop} {md : Region.Mode} {S S' : World → Prop}
end

/-- Bytes handed back that stay what they are. -/
def Stays (A : Option Addr) (_c : Nat) (l : List UInt8) (W : World) : Prop := ∃ B, B ≤ W.heap.size ∧ Lies W B A (cells (nums l))
theorem Stays.on {A : Option Addr} {c : Nat} {l : List UInt8} {w1 w2 : World} (h : Stays A c l w1) (hb : Below w1.heap.size w1 w2) : Stays A c l w2 := by
  obtain ⟨B, h1, h2⟩ := h
  exact ⟨B, Nat.le_trans h1 hb.size, h2.below hb h1⟩
end Go.Proofs.YtjgdfajooccalaaDoor

/- Package arith: the operator of an opcode as a plain function; bits counted by math/bits.OnesCount64; a turn downwards. -/
namespace Go.Proofs.YtjgdfajooccalaaDoor
open Go.RowKit
set_option linter.unusedVariables false
set_option maxRecDepth 100000

theorem xor_64 : bits .xor .u64 IntKind.u64.max 0 = 18446744073709551615 := by decide
theorem xor_64A : bits .xor .u64 (if IntKind.u64.signed = true then -1 else IntKind.u64.max) 0 = 18446744073709551615 := by decide
/-- The operator of an opcode: those that ask begin one ahead of cb, those that make a number three ahead of ab; 0: none. -/
def ofN (cb ab op : Nat) : Nat :=
  if cb ≤ op + 1 ∧ op ≤ cb + 9 then op + 2 - cb else if ab ≤ op + 3 ∧ op ≤ ab + 14 then op + 15 - ab else 0
theorem or_rotr {n v k : Nat} (hv : v < 2 ^ n) (hk : k < n) : (v / 2 ^ k) ||| (v * 2 ^ (n - k) % 2 ^ n) = rotN n v ((n - k) % n) := by
  rw [Nat.or_comm]
  by_cases h : k = 0
  · subst h
    have e : v * 2 ^ (n - 0) % 2 ^ n = 0 := by rw [Nat.sub_zero]; exact Nat.mul_mod_left _ _
    have e2 : v / 2 ^ n = 0 := Nat.div_eq_of_lt hv
    rw [e, Nat.sub_zero, Nat.mod_self]
    unfold rotN
    rw [Nat.sub_zero, e2, Nat.pow_zero, Nat.mul_one, Nat.div_one, Nat.mod_eq_of_lt hv, Nat.zero_or]
    rfl
  · have h2 : n - k < n := by omega
    have h3 := or_rot hv h2
    rw [show n - (n - k) = k by omega] at h3
    rw [h3, Nat.mod_eq_of_lt h2]
theorem and127 (n : Int) : bits .and .i64 n 127 = n % 128 := by
  have h : (BitVec.ofInt 64 127).toNat = 2 ^ 7 - 1 := by decide
  have key : (BitVec.ofInt 64 n &&& BitVec.ofInt 64 127).toNat = (n % ((2 ^ 64 : Nat) : Int)).toNat % 2 ^ 7 := by
    rw [BitVec.toNat_and, BitVec.toNat_ofInt, h, Nat.and_two_pow_sub_one_eq_mod]
  show IntKind.i64.wrap ((BitVec.ofInt 64 n &&& BitVec.ofInt 64 127).toNat : Nat) = n % 128
  rw [key, IntKind.wrap_i64]
  omega
theorem wrap_mod128 (x : Int) : wrap64 x % 128 = x % 128 := by unfold wrap64; omega
theorem u64_add {p q r : Nat} (h : p + q = r) (hr : r < 18446744073709551616) : IntKind.u64.wrap ((p : Int) + (q : Int)) = (r : Int) := by rw [IntKind.wrap_u64]; omega
theorem u64_msk {p q m : Nat} (hp : p < 18446744073709551616) (hm : m < 18446744073709551616) (h : (p &&& m) = q) : bits .and .u64 (p : Int) (m : Int) = (q : Int) := by rw [u64_and_nat _ _ hp hm, h]
theorem half_lt {p : Nat} (k : Nat) (h : p < 18446744073709551616) : p / k < 18446744073709551616 := Nat.lt_of_le_of_lt (Nat.div_le_self _ _) h
set_option maxHeartbeats 1000000 in
theorem ones_any {w : World} (v : Nat) (hv : v < 18446744073709551616) : Calls Tryd.prog 25 #[.int .u64 v] w fun e w' => e = .returned (.int .i64 (Lib.onesCount v)) ∧ w = w' := by
  rw [pop_of (n := 64) hv (by decide)]
  obtain ⟨a, b, c, d, e, f, g, y, ha, hb, hc, hcl, hd, he, hf, hfl, hg, hgl, hy, hyp⟩ := ones64_num hv
  obtain ⟨x4, x5, x6, h4, h5, h6, l4, l5, l6, hs⟩ := pc_sum hyp
  have E1 : bits .and .u64 ((v : Int) / 2) 6148914691236517205 = (a : Int) := by rw [show (v : Int) / 2 = ((v / 2 : Nat) : Int) from (Int.natCast_ediv v 2).symm]; exact u64_msk (half_lt 2 hv) (by decide) ha
  have E2 : bits .and .u64 (v : Int) 6148914691236517205 = (b : Int) := u64_msk hv (by decide) hb
  have E3 : IntKind.u64.wrap ((a : Int) + (b : Int)) = (c : Int) := u64_add hc hcl
  have E4 : bits .and .u64 ((c : Int) / 4) 3689348814741910323 = (d : Int) := by rw [show (c : Int) / 4 = ((c / 4 : Nat) : Int) from (Int.natCast_ediv c 4).symm]; exact u64_msk (half_lt 4 hcl) (by decide) hd
  have E5 : bits .and .u64 (c : Int) 3689348814741910323 = (e : Int) := u64_msk hcl (by decide) he
  have E6 : IntKind.u64.wrap ((d : Int) + (e : Int)) = (f : Int) := u64_add hf hfl
  have E7 : IntKind.u64.wrap ((f : Int) / 16 + (f : Int)) = (g : Int) := by rw [show (f : Int) / 16 = ((f / 16 : Nat) : Int) from (Int.natCast_ediv f 16).symm]; exact u64_add hg hgl
  have E8 : bits .and .u64 (g : Int) 1085102592571150095 = (y : Int) := u64_msk hgl (by decide) hy
  have E9 : IntKind.u64.wrap ((y : Int) + (y : Int) / 256) = (x4 : Int) := by rw [show (y : Int) / 256 = ((y / 256 : Nat) : Int) from (Int.natCast_ediv y 256).symm]; exact u64_add h4 l4
  have F1 : IntKind.u64.wrap ((x4 : Int) + (x4 : Int) / 65536) = (x5 : Int) := by rw [show (x4 : Int) / 65536 = ((x4 / 65536 : Nat) : Int) from (Int.natCast_ediv x4 65536).symm]; exact u64_add h5 l5
  have F2 : IntKind.u64.wrap ((x5 : Int) + (x5 : Int) / 4294967296) = (x6 : Int) := by rw [show (x5 : Int) / 4294967296 = ((x5 / 4294967296 : Nat) : Int) from (Int.natCast_ediv x5 4294967296).symm]; exact u64_add h6 l6
  generalize Lib.popAux 64 v = r at *
  have F3 : bits .and .i64 (wrap64 (x6 : Int)) 127 = (r : Int) := by rw [and127, wrap_mod128, ← hs]; exact (Int.natCast_emod x6 128).symm
  clear ha hb hc hd he hf hg hy hyp h4 h5 h6 hs
  go_enter Tryd.func25, Tryd.ntmps25
  go_wp2
  go_ret
  exact ⟨rfl, rfl⟩
theorem ones_64 {w : World} : Calls Tryd.prog 25 #[.int .u64 18446744073709551615] w fun e w' => e = .returned (.int .i64 64) ∧ w = w' := by
  have e : Lib.onesCount 18446744073709551615 = 64 := by rw [pop_of (n := 64) (by decide) (by decide)]; decide
  have h := ones_any (w := w) 18446744073709551615 (by decide)
  rw [e] at h
  exact h
end Go.Proofs.YtjgdfajooccalaaDoor

/- The table of package math/bits and what TrailingZeros64 makes of it; zero bits behind in the lower part of a number. -/
namespace Go.Proofs.YtjgdfajooccalaaDoor
open Go.RowKit
set_option linter.unusedVariables false
set_option maxRecDepth 100000

/-- The table of package math/bits, in its variable. -/
def TabB (w : World) : Prop := TabAt 0 Lib.deBruijn64tab w
/-- Zero bits behind, in the first n of more. -/
theorem tz_min : ∀ (n k v : Nat), min (tzL (bitsL (n + k) v)) n = tzL (bitsL n v)
  | 0, k, v => by simp [bitsL, tzL]
  | n + 1, k, v => by
    have h := tz_min n k (v / 2)
    rw [show n + 1 + k = (n + k) + 1 by omega]
    simp only [bitsL, tzL]
    rcases Nat.mod_two_eq_zero_or_one v with e | e
    · simp only [e]
      simp
      omega
    · simp [e]
theorem tz_any {w : World} (v : Nat) (hv : v < 18446744073709551616) (hT : TabB w) : Calls Tryd.prog 24 #[.int .u64 v] w fun e w' => e = .returned (.int .i64 (Lib.ctz 64 v)) ∧ w = w' := by
  by_cases hx0 : v = 0
  · subst hx0
    go_enter Tryd.func24, Tryd.ntmps24
    go_wp2
    go_ret
    exact ⟨rfl, rfl⟩
  · obtain ⟨hlow, hk⟩ := Lib.lowest_bit 64 v hx0 hv
    obtain ⟨hi, htab⟩ := Lib.deBruijn64_at _ hk
    have hcell := hT _ hi
    rw [htab] at hcell
    have key := tz64_key v _ hv hx0 hlow
    have h0 : ((v : Int) == 0) = false := by simp; omega
    obtain ⟨idx, hidx⟩ : ∃ i, i = 2 ^ Lib.ctz 64 v * 285870213051353865 % 18446744073709551616 / 288230376151711744 := ⟨_, rfl⟩
    have hi2 : idx < 64 := by rw [hidx]; exact hi
    rw [← hidx] at key hcell
    generalize Lib.ctz 64 v = k at *
    clear hlow hi htab hidx hT
    go_enter Tryd.func24, Tryd.ntmps24
    go_wp2_with (simp only [key])
    go_ret
    exact ⟨rfl, rfl⟩
end Go.Proofs.YtjgdfajooccalaaDoor

/- What the row lists of the table math/bits.deBruijn64tab, as the walks want it; a world that holds it. -/
namespace Go.Proofs.YtjgdfajooccalaaDoor
set_option linter.unusedVariables false
open Go.Shelf Go.Lib

theorem ownW : ownKnob Tryd.prog.godebug = none := by kernel_rfl
/-- What the row lists. -/
def listedW : List (String × DataW Unit) := [("math/bits.deBruijn64tab", Rows.laid_math_bits_deBruijn64tab)]
theorem listedW_plain (W : World) : laidMetH Tryd.prog listedW W = laidMet Tryd.prog listedW W := Go.MakeChecks.laidMetH_plain _ _ _ (by kernel_rfl)
def tabW : List Int := Lib.deBruijn64tab.map fun c => ((c : Nat) : Int)
theorem laidWN : Tryd.prog.globalNamed "math/bits.deBruijn64tab" = some 0 := by kernel_rfl
theorem laidWY : (Tryd.prog.globals[0]?).map (·.type) = some 52 := by kernel_rfl
theorem laidWD : (Rows.laid_math_bits_deBruijn64tab : DataW Unit) = tabData .u8 tabW := by kernel_rfl
theorem laidW_of {W : World} (h : laidMetH Tryd.prog listedW W) : TabB W := by
  rw [listedW_plain] at h
  obtain ⟨g, t, cs, fuel, p, hg, hty, hvar, hd⟩ := Lib.laidMet.reads h (show ("math/bits.deBruijn64tab", Rows.laid_math_bits_deBruijn64tab) ∈ listedW from .head _)
  obtain rfl := Option.some.inj (laidWN.symm.trans hg)
  obtain rfl := Option.some.inj (laidWY.symm.trans hty)
  rw [laidWD] at hd
  have hcs := cells_of_tab Tryd.underlying52 Tryd.underlying5 (by kernel_rfl) (by kernel_rfl) hd
  intro j hj
  rw [World.var?_cell laidWN hvar j, ← Array.getElem?_toList, hcs]
  unfold tabW
  rw [List.map_map, List.getElem?_map, List.getElem?_eq_getElem hj, List.getD_eq_getElem?_getD, List.getElem?_eq_getElem hj]
  rfl
/-- The settled world, the table laid. -/
noncomputable def laidWorldW (os : Os) : World :=
  let w0 := World.holding Tryd.prog os ⟨#[], #[], []⟩
  let put (h : Array Obj) (g : Nat) (cs : Array Value) : Array Obj := h.modify g fun
    | .cells _ t frozen => .cells cs t frozen
    | o => o
  { w0 with heap := put w0.heap 0 (tabW.map fun z => Value.int .u8 z).toArray }
theorem laidWorldW_met (os : Os) (args : Array Value) : laidMetH Tryd.prog listedW ((laidWorldW os).forCall (fun _ _ => 0) ⟨#[], args, []⟩).memory := by
  rw [listedW_plain]
  exact (LaidIn.of_run (l := listedW) [0] 8 (by kernel_rfl) (by kernel_rfl) (by kernel_rfl) (by kernel_rfl)).met
end Go.Proofs.YtjgdfajooccalaaDoor
