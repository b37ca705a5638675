/- Rows of bytes of the call's own, as lists of bytes: append of a new block, of a string, of what lies somewhere; string(b). -/
import Derived.Test.YtjgdfajooccalaaZc01
import Derived.Lib.AppendStr
import Derived.Deep.RegionHeld3
import Derived.Test.YtjgdfajooccalaaZc02
import Derived.Deep.QuietTactic
import Derived.Deep.CutBlock
import Derived.Deep.DeepCutAuto
import Derived.WalkLawsBesides
import Derived.BigQuiet
import Derived.LoopTactic
import Derived.Deep.DeepMust
import Derived.Lib.BitFns
import Derived.Laws.BitsAllLaws
namespace Go.Proofs.Ytjgdfajooccalaa
set_option linter.unusedVariables false
open Go.RowKit

/-- A row of the call's own that reads as these bytes. -/
def Row (w : World) (base : Nat) (v : Value) (xs : List UInt8) : Prop := w.ownsRow base 5 1 v xs.length (cells (nums xs))
theorem Row.nil (w : World) (base : Nat) : Row w base (.slice none 0 0) [] := World.ownsRow_nil w base _ 1
theorem Row.later {w w' : World} {base : Nat} {v : Value} {xs : List UInt8} (h : Row w base v xs) (hb : Below w.heap.size w w') : Row w' base v xs :=
  World.ownsRow.kept h (gb_of_below none hb) (by cases v.ownBlock with
    | none => exact .inl rfl
    | some k => exact .inr (by simp))
theorem Row.drew {w : World} {base : Nat} {v : Value} {xs : List UInt8} (h : Row w base v xs) : Row w.drew base v xs := h
theorem Row.alloc {w : World} {base : Nat} {v : Value} {xs : List UInt8} (h : Row w base v xs) (o : Obj) : Row (w.alloc o) base v xs := World.ownsRow.alloc h o
theorem Row.mono {w : World} {base base' : Nat} {v : Value} {xs : List UInt8} (h : Row w base v xs) (hb : base' ≤ base) : Row w base' v xs := by
  obtain ⟨h1, h2⟩ := h
  refine ⟨h1, ?_⟩
  rcases h2 with h2 | ⟨g, cap, cur, e, hg, r⟩
  · exact .inl h2
  · exact .inr ⟨g, cap, cur, e, Nat.le_trans hb hg, r⟩
theorem Row.below {w w' : World} {base : Nat} {v : Value} {xs : List UInt8} (h : Row w base v xs) (hB : base ≤ w.heap.size) (hg : w.grownBy w' v.ownBlock) : Below base w w' :=
  Below.grown (Below.refl _ _) hg hB (fun k hk => (World.ownsRow.lt h k hk).1)
/-- A block of bytes, all of them read; H is its number as the walk writes it. -/
theorem Row.made (w : World) (xs : List UInt8) (base H : Nat) (hH : w.heap.size = H) (hb : base ≤ H) (hl : xs.length ≤ 40000000) :
    Row (w.alloc (.cells (cells (nums xs)).toArray 5)) base (.slice (some ⟨H, 0, none⟩) xs.length xs.length) xs := by
  subst hH
  have hn : (cells (nums xs)).length = xs.length := by rw [cells_length, nums_length]
  refine ⟨by omega, .inr ⟨w.heap.size, xs.length, (cells (nums xs)).toArray, rfl, hb, heap_alloc_new w _, Nat.le_refl _, by unfold maxLen; omega, by simp [hn], ?_⟩⟩
  rw [List.take_of_length_le (by simp [hn])]

section
variable {w : World} {ops : Array Oper} {rest : List Oper} {o : Oper} {a : Act} {Q : Exit → Act → World → Prop} {K : Act → World → Prop}
end

end Go.Proofs.Ytjgdfajooccalaa

/- A region that draws its order, walked step by step: what is held of the world may grow on the way. -/
namespace Go.Proofs.Ytjgdfajooccalaa
set_option linter.unusedVariables false
open Go.RowKit

section
variable {P : Program} {ops : Array Oper} {Q : Exit → Act → World → Prop} {md : Region.Mode} {S S' : World → Prop}
/-- Operation i first: it yields v in every world of which S is held. -/
theorem heldTake {i : Nat} {oi : Oper} {v : Value} {fuel : Nat} {listed : Array Bool} {a : Act} {w : World} (hi : ops[i]? = some oi)
    (hs : Region.noSelect ops = true) (hf : Region.free md ops listed i = true) (hr : (Region.ready md ops listed).contains i = true)
    (hS : S w) (hy : YieldsIf P ops S oi v a)
    (h : wpAnyH P md ops (NoPanic Q) S fuel (listed.setIfInBounds i true) (a.put oi.dst v) w) : wpAnyH P md ops (NoPanic Q) S (fuel + 1) listed a w :=
  wpAnyH_take hi hs hf hr (fun _ _ _ h => h) hy hS h
end

/-- Bytes handed back that stay what they are. -/
def Stays (A : Option Addr) (_c : Nat) (l : List UInt8) (W : World) : Prop := ∃ B, B ≤ W.heap.size ∧ Lies W B A (cells (nums l))
theorem Stays.on {A : Option Addr} {c : Nat} {l : List UInt8} {w1 w2 : World} (h : Stays A c l w1) (hb : Below w1.heap.size w1 w2) : Stays A c l w2 := by
  obtain ⟨B, h1, h2⟩ := h
  exact ⟨B, Nat.le_trans h1 hb.size, h2.below hb h1⟩
end Go.Proofs.Ytjgdfajooccalaa

/- Package arith: the operator of an opcode as a plain function; bits counted by math/bits.OnesCount64; a turn downwards. -/
namespace Go.Proofs.Ytjgdfajooccalaa
open Go.RowKit
set_option linter.unusedVariables false
set_option maxRecDepth 100000

theorem xor_64 : bits .xor .u64 IntKind.u64.max 0 = 18446744073709551615 := by decide
theorem xor_64A : bits .xor .u64 (if IntKind.u64.signed = true then -1 else IntKind.u64.max) 0 = 18446744073709551615 := by decide
/-- The operator of an opcode: those that ask begin one ahead of cb, those that make a number three ahead of ab; 0: none. -/
def ofN (cb ab op : Nat) : Nat :=
  if cb ≤ op + 1 ∧ op ≤ cb + 9 then op + 2 - cb else if ab ≤ op + 3 ∧ op ≤ ab + 14 then op + 15 - ab else 0
theorem or_rotr {n v k : Nat} (hv : v < 2 ^ n) (hk : k < n) : (v / 2 ^ k) ||| (v * 2 ^ (n - k) % 2 ^ n) = rotN n v ((n - k) % n) := by
  rw [Nat.or_comm]
  by_cases h : k = 0
  · subst h
    have e : v * 2 ^ (n - 0) % 2 ^ n = 0 := by rw [Nat.sub_zero]; exact Nat.mul_mod_left _ _
    have e2 : v / 2 ^ n = 0 := Nat.div_eq_of_lt hv
    rw [e, Nat.sub_zero, Nat.mod_self]
    unfold rotN
    rw [Nat.sub_zero, e2, Nat.pow_zero, Nat.mul_one, Nat.div_one, Nat.mod_eq_of_lt hv, Nat.zero_or]
    rfl
  · have h2 : n - k < n := by omega
    have h3 := or_rot hv h2
    rw [show n - (n - k) = k by omega] at h3
    rw [h3, Nat.mod_eq_of_lt h2]
theorem and127 (n : Int) : bits .and .i64 n 127 = n % 128 := by
  have h : (BitVec.ofInt 64 127).toNat = 2 ^ 7 - 1 := by decide
  have key : (BitVec.ofInt 64 n &&& BitVec.ofInt 64 127).toNat = (n % ((2 ^ 64 : Nat) : Int)).toNat % 2 ^ 7 := by
    rw [BitVec.toNat_and, BitVec.toNat_ofInt, h, Nat.and_two_pow_sub_one_eq_mod]
  show IntKind.i64.wrap ((BitVec.ofInt 64 n &&& BitVec.ofInt 64 127).toNat : Nat) = n % 128
  rw [key, IntKind.wrap_i64]
  omega
theorem wrap_mod128 (x : Int) : wrap64 x % 128 = x % 128 := by unfold wrap64; omega
theorem u64_add {p q r : Nat} (h : p + q = r) (hr : r < 18446744073709551616) : IntKind.u64.wrap ((p : Int) + (q : Int)) = (r : Int) := by rw [IntKind.wrap_u64]; omega
theorem u64_msk {p q m : Nat} (hp : p < 18446744073709551616) (hm : m < 18446744073709551616) (h : (p &&& m) = q) : bits .and .u64 (p : Int) (m : Int) = (q : Int) := by rw [u64_and_nat _ _ hp hm, h]
theorem half_lt {p : Nat} (k : Nat) (h : p < 18446744073709551616) : p / k < 18446744073709551616 := Nat.lt_of_le_of_lt (Nat.div_le_self _ _) h
set_option maxHeartbeats 1000000 in
theorem ones_any {w : World} (v : Nat) (hv : v < 18446744073709551616) : Calls Try.prog 56 #[.int .u64 v] w fun e w' => e = .returned (.int .i64 (Lib.onesCount v)) ∧ w = w' := by
  rw [pop_of (n := 64) hv (by decide)]
  obtain ⟨a, b, c, d, e, f, g, y, ha, hb, hc, hcl, hd, he, hf, hfl, hg, hgl, hy, hyp⟩ := ones64_num hv
  obtain ⟨x4, x5, x6, h4, h5, h6, l4, l5, l6, hs⟩ := pc_sum hyp
  have E1 : bits .and .u64 ((v : Int) / 2) 6148914691236517205 = (a : Int) := by rw [show (v : Int) / 2 = ((v / 2 : Nat) : Int) from (Int.natCast_ediv v 2).symm]; exact u64_msk (half_lt 2 hv) (by decide) ha
  have E2 : bits .and .u64 (v : Int) 6148914691236517205 = (b : Int) := u64_msk hv (by decide) hb
  have E3 : IntKind.u64.wrap ((a : Int) + (b : Int)) = (c : Int) := u64_add hc hcl
  have E4 : bits .and .u64 ((c : Int) / 4) 3689348814741910323 = (d : Int) := by rw [show (c : Int) / 4 = ((c / 4 : Nat) : Int) from (Int.natCast_ediv c 4).symm]; exact u64_msk (half_lt 4 hcl) (by decide) hd
  have E5 : bits .and .u64 (c : Int) 3689348814741910323 = (e : Int) := u64_msk hcl (by decide) he
  have E6 : IntKind.u64.wrap ((d : Int) + (e : Int)) = (f : Int) := u64_add hf hfl
  have E7 : IntKind.u64.wrap ((f : Int) / 16 + (f : Int)) = (g : Int) := by rw [show (f : Int) / 16 = ((f / 16 : Nat) : Int) from (Int.natCast_ediv f 16).symm]; exact u64_add hg hgl
  have E8 : bits .and .u64 (g : Int) 1085102592571150095 = (y : Int) := u64_msk hgl (by decide) hy
  have E9 : IntKind.u64.wrap ((y : Int) + (y : Int) / 256) = (x4 : Int) := by rw [show (y : Int) / 256 = ((y / 256 : Nat) : Int) from (Int.natCast_ediv y 256).symm]; exact u64_add h4 l4
  have F1 : IntKind.u64.wrap ((x4 : Int) + (x4 : Int) / 65536) = (x5 : Int) := by rw [show (x4 : Int) / 65536 = ((x4 / 65536 : Nat) : Int) from (Int.natCast_ediv x4 65536).symm]; exact u64_add h5 l5
  have F2 : IntKind.u64.wrap ((x5 : Int) + (x5 : Int) / 4294967296) = (x6 : Int) := by rw [show (x5 : Int) / 4294967296 = ((x5 / 4294967296 : Nat) : Int) from (Int.natCast_ediv x5 4294967296).symm]; exact u64_add h6 l6
  generalize Lib.popAux 64 v = r at *
  have F3 : bits .and .i64 (wrap64 (x6 : Int)) 127 = (r : Int) := by rw [and127, wrap_mod128, ← hs]; exact (Int.natCast_emod x6 128).symm
  clear ha hb hc hd he hf hg hy hyp h4 h5 h6 hs
  go_enter Try.func56, Try.ntmps56
  go_wp2
  go_ret
  exact ⟨rfl, rfl⟩
theorem ones_64 {w : World} : Calls Try.prog 56 #[.int .u64 18446744073709551615] w fun e w' => e = .returned (.int .i64 64) ∧ w = w' := by
  have e : Lib.onesCount 18446744073709551615 = 64 := by rw [pop_of (n := 64) (by decide) (by decide)]; decide
  have h := ones_any (w := w) 18446744073709551615 (by decide)
  rw [e] at h
  exact h
end Go.Proofs.Ytjgdfajooccalaa

/- Package arith at 64 bits: width, signed, quotient, divide, shift, as plain functions of numbers. (By gen/genAr.py.) -/
namespace Go.Proofs.Ytjgdfajooccalaa
open Go.RowKit
set_option linter.unusedVariables false
set_option maxRecDepth 100000
theorem awtruth (b : Bool) (w : World) : Calls Try.prog 57 #[.bool b] w fun e w' => e = .returned (.int .u64 ((b.toNat : Nat))) ∧ w = w' := by
  cases b
  · go_enter Try.func57, Try.ntmps57
    go_wp2
    go_ret
    exact ⟨rfl, rfl⟩
  · go_enter Try.func57, Try.ntmps57
    go_wp2
    go_ret
    exact ⟨rfl, rfl⟩
theorem awwid {w : World} : Calls Try.prog 40 #[] w fun e w' => e = .returned (.int .u64 (64)) ∧ w = w' := by
  have HO := Lib.hid (ones_64 (w := w))
  have em := xor_64
  have en := xor_64A
  go_enter Try.func40, Try.ntmps40
  go_wp2_with (go_at_call 56; (with_reducible refine HO.out.mono ?_); rintro e w0 ⟨rfl, rfl⟩)
  go_ret
  exact ⟨rfl, rfl⟩
theorem awsq {v : Nat} (hv : v < 18446744073709551616) : wrap64 (v : Int) = sg 64 v := by
  unfold sg wrap64
  rw [show (2 : Int) ^ 64 = 18446744073709551616 by decide, show 2 ^ 64 = 18446744073709551616 by decide]
  split <;> omega
theorem awsi {v : Nat} (hv : v < 18446744073709551616) : wrap64 (sg 64 v) = sg 64 v := by rw [← awsq hv]; unfold wrap64; omega
theorem awsgn {w : World} (v : Nat) (hv : v < 18446744073709551616) : Calls Try.prog 55 #[.int .u64 v] w fun e w' => e = .returned (.int .i64 (sg 64 v)) ∧ w = w' := by
  have q := awsq hv
  have q0 := awsi hv
  generalize sg 64 v = x at *
  have HW := Lib.hid (fun W => awwid (w := W))
  go_enter Try.func55, Try.ntmps55
  go_wp2_with (go_at_call 40; (with_reducible refine (HW.out _).mono ?_); rintro e w0 ⟨rfl, rfl⟩)
  go_ret
  first | exact ⟨rfl, rfl⟩ | exact ⟨congrArg (fun x => Ending.returned (Value.int .i64 x)) q, rfl⟩
theorem awquo {w : World} (v u : Nat) (hv : v < 18446744073709551616) (hu : u < 18446744073709551616) (h0 : u ≠ 0) : Calls Try.prog 54 #[.int .u64 v, .int .u64 u] w fun e w' => e = .returned (.tuple #[.int .u64 ((quoN 64 0 v u).1), .int .i64 ((quoN 64 0 v u).2)]) ∧ w = w' := by
  have em := xor_64
  have en := xor_64A
  by_cases hc : v = 9223372036854775808 ∧ u = 18446744073709551615
  · have hr : quoN 64 0 v u = (0, 62) := by unfold quoN; rw [if_neg h0, if_pos rfl, if_pos hc]
    rw [hr]
    have d1 : ((v : Int) == 9223372036854775808) = true := by simp; omega
    have d2 : ((u : Int) == 18446744073709551615) = true := by simp; omega
    clear hr hc
    have HW := Lib.hid (fun W => awwid (w := W))
    go_enter Try.func54, Try.ntmps54
    go_wp2_with (go_at_call 40; (with_reducible refine (HW.out _).mono ?_); rintro e w0 ⟨rfl, rfl⟩)
    go_ret2
    exact ⟨rfl, rfl⟩
  have hr : quoN 64 0 v u = ((sg 64 v).tdiv (sg 64 u) % 2 ^ 64 |>.toNat, 0) := by unfold quoN; rw [if_neg h0, if_pos rfl, if_neg hc]
  have hz : sg 64 u ≠ 0 := fun h => h0 ((sg_zero (n := 64) hu).1 h)
  rw [hr]
  have q : IntKind.u64.wrap (wrap64 ((sg 64 v).tdiv (sg 64 u))) = ((((sg 64 v).tdiv (sg 64 u) % 2 ^ 64).toNat : Nat) : Int) := by rw [show (2 : Int) ^ 64 = 18446744073709551616 by decide]; rw [IntKind.wrap_u64]; unfold wrap64; omega
  obtain ⟨r, hr2⟩ : ∃ r : Nat, r = ((sg 64 v).tdiv (sg 64 u) % 2 ^ 64).toNat := ⟨_, rfl⟩
  rw [← hr2] at q ⊢
  have HS0 := Lib.hid (fun W => awsgn (w := W) v hv)
  have HS1 := Lib.hid (fun W => awsgn (w := W) u hu)
  clear hr hr2
  generalize sg 64 v = x at *
  generalize sg 64 u = y at *
  have d0 : (y == 0) = false := by simp; omega
  have HW := Lib.hid (fun W => awwid (w := W))
  by_cases hx : v = 9223372036854775808
  · have d1 : ((v : Int) == 9223372036854775808) = true := by simp; omega
    have d2 : ((u : Int) == 18446744073709551615) = false := by simp; omega
    clear hc hx
    go_enter Try.func54, Try.ntmps54
    go_wp2_with (first | (go_at_call 40; (with_reducible refine (HW.out _).mono ?_); rintro e w0 ⟨rfl, rfl⟩) | (go_at_call 55; (with_reducible refine (HS0.out _).mono ?_); rintro e w0 ⟨rfl, rfl⟩) | (go_at_call 55; (with_reducible refine (HS1.out _).mono ?_); rintro e w0 ⟨rfl, rfl⟩))
    go_ret2
    first | exact ⟨rfl, rfl⟩ | exact ⟨congrArg (fun z => Ending.returned (Value.tuple #[Value.int .u64 z, Value.int .i64 0])) q, rfl⟩
  · have d1 : ((v : Int) == 9223372036854775808) = false := by simp; omega
    clear hc hx
    go_enter Try.func54, Try.ntmps54
    go_wp2_with (first | (go_at_call 40; (with_reducible refine (HW.out _).mono ?_); rintro e w0 ⟨rfl, rfl⟩) | (go_at_call 55; (with_reducible refine (HS0.out _).mono ?_); rintro e w0 ⟨rfl, rfl⟩) | (go_at_call 55; (with_reducible refine (HS1.out _).mono ?_); rintro e w0 ⟨rfl, rfl⟩))
    go_ret2
    first | exact ⟨rfl, rfl⟩ | exact ⟨congrArg (fun z => Ending.returned (Value.tuple #[Value.int .u64 z, Value.int .i64 0])) q, rfl⟩
theorem awdiv0 {w : World} (v u : Nat) (hv : v < 18446744073709551616) (hu : u < 18446744073709551616) : Calls Try.prog 38 #[.int .u8 18, .int .u64 v, .int .u64 u] w fun e w' => e = .returned (.tuple #[.int .u64 ((quoN 64 0 v u).1), .int .i64 ((quoN 64 0 v u).2)]) ∧ w = w' := by
  by_cases h0 : u = 0
  · subst h0
    go_enter Try.func38, Try.ntmps38
    go_wp2
    go_ret2
    exact ⟨rfl, rfl⟩
  have d0 : ((u : Int) == 0) = false := by simp; omega
  have HQ := Lib.hid (awquo (w := w) v u hv hu h0)
  generalize quoN 64 0 v u = p at *
  go_enter Try.func38, Try.ntmps38
  go_wp2_with (go_at_call 54; (with_reducible refine HQ.out.mono ?_); rintro e w0 ⟨rfl, rfl⟩)
  go_ret2
  exact ⟨rfl, rfl⟩
theorem awdiv1 {w : World} (v u : Nat) (hv : v < 18446744073709551616) (hu : u < 18446744073709551616) : Calls Try.prog 38 #[.int .u8 19, .int .u64 v, .int .u64 u] w fun e w' => e = .returned (.tuple #[.int .u64 ((quoN 64 1 v u).1), .int .i64 ((quoN 64 1 v u).2)]) ∧ w = w' := by
  by_cases h0 : u = 0
  · subst h0
    go_enter Try.func38, Try.ntmps38
    go_wp2
    go_ret2
    exact ⟨rfl, rfl⟩
  have d0 : ((u : Int) == 0) = false := by simp; omega
  have q : IntKind.u64.wrap ((v : Int) / (u : Int)) = (((quoN 64 1 v u).1 : Nat) : Int) := by
    unfold quoN
    rw [if_neg h0]
    have h := Nat.div_le_self v u
    show _ = ((v / u : Nat) : Int)
    rw [IntKind.wrap_u64, ← Int.natCast_ediv]
    generalize v / u = d at *
    omega
  have q2 : (quoN 64 1 v u).2 = 0 := by unfold quoN; rw [if_neg h0]; rfl
  rw [q2]
  go_enter Try.func38, Try.ntmps38
  go_wp2
  go_ret2
  first | exact ⟨rfl, rfl⟩ | exact ⟨congrArg (fun z => Ending.returned (Value.tuple #[Value.int .u64 z, Value.int .i64 0])) q, rfl⟩
theorem awdiv2 {w : World} (v u : Nat) (hv : v < 18446744073709551616) (hu : u < 18446744073709551616) : Calls Try.prog 38 #[.int .u8 20, .int .u64 v, .int .u64 u] w fun e w' => e = .returned (.tuple #[.int .u64 ((quoN 64 2 v u).1), .int .i64 ((quoN 64 2 v u).2)]) ∧ w = w' := by
  by_cases h0 : u = 0
  · subst h0
    go_enter Try.func38, Try.ntmps38
    go_wp2
    go_ret2
    exact ⟨rfl, rfl⟩
  have d0 : ((u : Int) == 0) = false := by simp; omega
  have hr : quoN 64 2 v u = ((sg 64 v).tmod (sg 64 u) % 2 ^ 64 |>.toNat, 0) := by unfold quoN; rw [if_neg h0]; rfl
  rw [hr]
  have hz : sg 64 u ≠ 0 := fun h => h0 ((sg_zero (n := 64) hu).1 h)
  have q : IntKind.u64.wrap ((sg 64 v).tmod (sg 64 u)) = ((((sg 64 v).tmod (sg 64 u) % 2 ^ 64).toNat : Nat) : Int) := by rw [show (2 : Int) ^ 64 = 18446744073709551616 by decide, IntKind.wrap_u64]; omega
  obtain ⟨r, hr2⟩ : ∃ r : Nat, r = ((sg 64 v).tmod (sg 64 u) % 2 ^ 64).toNat := ⟨_, rfl⟩
  rw [← hr2] at q ⊢
  have HS0 := Lib.hid (fun W => awsgn (w := W) v hv)
  have HS1 := Lib.hid (fun W => awsgn (w := W) u hu)
  clear hr hr2
  generalize sg 64 v = x at *
  generalize sg 64 u = y at *
  have d1 : (y == 0) = false := by simp; omega
  go_enter Try.func38, Try.ntmps38
  go_wp2_with (first | (go_at_call 55; (with_reducible refine (HS0.out _).mono ?_); rintro e w0 ⟨rfl, rfl⟩) | (go_at_call 55; (with_reducible refine (HS1.out _).mono ?_); rintro e w0 ⟨rfl, rfl⟩))
  go_ret2
  first | exact ⟨rfl, rfl⟩ | exact ⟨congrArg (fun z => Ending.returned (Value.tuple #[Value.int .u64 z, Value.int .i64 0])) q, rfl⟩
theorem awdiv3 {w : World} (v u : Nat) (hv : v < 18446744073709551616) (hu : u < 18446744073709551616) : Calls Try.prog 38 #[.int .u8 21, .int .u64 v, .int .u64 u] w fun e w' => e = .returned (.tuple #[.int .u64 ((quoN 64 3 v u).1), .int .i64 ((quoN 64 3 v u).2)]) ∧ w = w' := by
  by_cases h0 : u = 0
  · subst h0
    go_enter Try.func38, Try.ntmps38
    go_wp2
    go_ret2
    exact ⟨rfl, rfl⟩
  have d0 : ((u : Int) == 0) = false := by simp; omega
  have q : (v : Int) % (u : Int) = (((quoN 64 3 v u).1 : Nat) : Int) := by
    unfold quoN
    rw [if_neg h0]
    have h := Nat.mod_lt v (show 0 < u by omega)
    show _ = ((v % u : Nat) : Int)
    rw [← Int.natCast_emod]
  have q2 : (quoN 64 3 v u).2 = 0 := by unfold quoN; rw [if_neg h0]; rfl
  rw [q2]
  go_enter Try.func38, Try.ntmps38
  go_wp2
  go_ret2
  first | exact ⟨rfl, rfl⟩ | exact ⟨congrArg (fun z => Ending.returned (Value.tuple #[Value.int .u64 z, Value.int .i64 0])) q, rfl⟩
theorem awsh0 {w : World} (v u : Nat) (hv : v < 18446744073709551616) (hu : u < 64) : Calls Try.prog 39 #[.int .u8 25, .int .u64 v, .int .u64 u] w fun e w' => e = .returned (.int .u64 ((v * 2 ^ u % 18446744073709551616 : Nat))) ∧ w = w' := by
  have q : IntKind.u64.wrap ((v : Int) * 2 ^ u) = ((v * 2 ^ u % 18446744073709551616 : Nat) : Int) := by rw [IntKind.wrap_u64]; rw [Int.natCast_emod, Int.natCast_mul, Int.natCast_pow]; rfl
  go_enter Try.func39, Try.ntmps39
  go_wp2
  go_ret
  first | exact ⟨rfl, rfl⟩ | exact ⟨congrArg (fun x => Ending.returned (Value.int .u64 x)) q, rfl⟩
theorem awsh1 {w : World} (v u : Nat) (hv : v < 18446744073709551616) (hu : u < 64) : Calls Try.prog 39 #[.int .u8 26, .int .u64 v, .int .u64 u] w fun e w' => e = .returned (.int .u64 (((sg 64 v / 2 ^ u % 18446744073709551616).toNat : Nat))) ∧ w = w' := by
  have q : IntKind.u64.wrap (sg 64 v / 2 ^ u) = (((sg 64 v / 2 ^ u % 18446744073709551616).toNat : Nat) : Int) := by rw [IntKind.wrap_u64]; omega
  obtain ⟨r, hr2⟩ : ∃ r : Nat, r = (sg 64 v / 2 ^ u % 18446744073709551616).toNat := ⟨_, rfl⟩
  rw [← hr2] at q ⊢
  have HS0 := Lib.hid (fun W => awsgn (w := W) v hv)
  clear hr2
  generalize sg 64 v = x at *
  go_enter Try.func39, Try.ntmps39
  go_wp2_with (go_at_call 55; (with_reducible refine (HS0.out _).mono ?_); rintro e w0 ⟨rfl, rfl⟩)
  go_ret
  first | exact ⟨rfl, rfl⟩ | exact ⟨congrArg (fun x => Ending.returned (Value.int .u64 x)) q, rfl⟩
theorem awsh2 {w : World} (v u : Nat) (hv : v < 18446744073709551616) (hu : u < 64) : Calls Try.prog 39 #[.int .u8 27, .int .u64 v, .int .u64 u] w fun e w' => e = .returned (.int .u64 ((v / 2 ^ u : Nat))) ∧ w = w' := by
  obtain ⟨r, hr2⟩ : ∃ r : Nat, r = v / 2 ^ u := ⟨_, rfl⟩
  have q : (v : Int) / 2 ^ u = (r : Int) := by rw [hr2, Int.natCast_ediv, Int.natCast_pow]; rfl
  rw [← hr2]
  clear hr2
  go_enter Try.func39, Try.ntmps39
  go_wp2
  go_ret
  first | exact ⟨rfl, rfl⟩ | exact ⟨congrArg (fun x => Ending.returned (Value.int .u64 x)) q, rfl⟩
theorem awsh3 {w : World} (v u : Nat) (hv : v < 18446744073709551616) (hu : u < 64) : Calls Try.prog 39 #[.int .u8 28, .int .u64 v, .int .u64 u] w fun e w' => e = .returned (.int .u64 ((rotN 64 v u : Nat))) ∧ w = w' := by
  have e3 : IntKind.u64.wrap (64 - (u : Int)) = ((64 - u : Nat) : Int) := by rw [IntKind.wrap_u64]; omega
  have q : bits .or .u64 (IntKind.u64.wrap ((v : Int) * 2 ^ u)) ((v : Int) / 2 ^ (64 - u)) = ((rotN 64 v u : Nat) : Int) := by
    have h := or_rot (n := 64) (v := v) hv hu
    rw [← h]
    have p1 : v * 2 ^ u % 18446744073709551616 < 18446744073709551616 := Nat.mod_lt _ (by decide)
    have p2 : v / 2 ^ (64 - u) < 18446744073709551616 := Nat.lt_of_le_of_lt (Nat.div_le_self _ _) hv
    rw [← u64_or_nat _ _ p1 p2, IntKind.wrap_u64, Int.natCast_emod, Int.natCast_mul, Int.natCast_ediv, Int.natCast_pow, Int.natCast_pow]
    rfl
  obtain ⟨r, hr2⟩ : ∃ r : Nat, r = rotN 64 v u := ⟨_, rfl⟩
  rw [← hr2] at q ⊢
  clear hr2
  have HW := Lib.hid (fun W => awwid (w := W))
  go_enter Try.func39, Try.ntmps39
  go_wp2_with (go_at_call 40; (with_reducible refine (HW.out _).mono ?_); rintro e w0 ⟨rfl, rfl⟩)
  go_ret
  first | exact ⟨rfl, rfl⟩ | exact ⟨congrArg (fun x => Ending.returned (Value.int .u64 x)) q, rfl⟩
theorem awsh4 {w : World} (v u : Nat) (hv : v < 18446744073709551616) (hu : u < 64) : Calls Try.prog 39 #[.int .u8 29, .int .u64 v, .int .u64 u] w fun e w' => e = .returned (.int .u64 ((rotN 64 v ((64 - u) % 64) : Nat))) ∧ w = w' := by
  have e3 : IntKind.u64.wrap (64 - (u : Int)) = ((64 - u : Nat) : Int) := by rw [IntKind.wrap_u64]; omega
  have q : bits .or .u64 ((v : Int) / 2 ^ u) (IntKind.u64.wrap ((v : Int) * 2 ^ (64 - u))) = ((rotN 64 v ((64 - u) % 64) : Nat) : Int) := by
    have h := or_rotr (n := 64) (v := v) hv hu
    rw [← h]
    have p1 : v * 2 ^ (64 - u) % 18446744073709551616 < 18446744073709551616 := Nat.mod_lt _ (by decide)
    have p2 : v / 2 ^ u < 18446744073709551616 := Nat.lt_of_le_of_lt (Nat.div_le_self _ _) hv
    rw [← u64_or_nat _ _ p2 p1, IntKind.wrap_u64, Int.natCast_emod, Int.natCast_mul, Int.natCast_ediv, Int.natCast_pow, Int.natCast_pow]
    rfl
  obtain ⟨r, hr2⟩ : ∃ r : Nat, r = rotN 64 v ((64 - u) % 64) := ⟨_, rfl⟩
  rw [← hr2] at q ⊢
  clear hr2
  have HW := Lib.hid (fun W => awwid (w := W))
  go_enter Try.func39, Try.ntmps39
  go_wp2_with (go_at_call 40; (with_reducible refine (HW.out _).mono ?_); rintro e w0 ⟨rfl, rfl⟩)
  go_ret
  first | exact ⟨rfl, rfl⟩ | exact ⟨congrArg (fun x => Ending.returned (Value.int .u64 x)) q, rfl⟩
end Go.Proofs.Ytjgdfajooccalaa

/- Package arith at 64 bits: compare, as plain functions of numbers. (By gen/genAr.py.) -/
namespace Go.Proofs.Ytjgdfajooccalaa
open Go.RowKit
set_option linter.unusedVariables false
set_option maxRecDepth 100000
theorem awcmp0 {w : World} (v u : Nat) (hv : v < 18446744073709551616) (hu : u < 18446744073709551616) : Calls Try.prog 41 #[.int .u8 2, .int .u64 v, .int .u64 u] w fun e w' => e = .returned (.tuple #[.int .u64 (((cmpN 64 0 v u).toNat : Nat)), .int .i64 (0)]) ∧ w = w' := by
  obtain ⟨d, hd⟩ : ∃ d, d = cmpN 64 0 v u := ⟨_, rfl⟩
  rw [← hd]
  have hd2 : ((v : Int) == (u : Int)) = d := by rw [hd, int_beq]; rfl
  clear hd
  have HT := Lib.hid (awtruth d w)
  go_enter Try.func41, Try.ntmps41
  go_wp2_with (go_at_call 57; (with_reducible refine HT.out.mono ?_); rintro e w0 ⟨rfl, rfl⟩)
  go_ret2
  exact ⟨rfl, rfl⟩
theorem awcmp1 {w : World} (v u : Nat) (hv : v < 18446744073709551616) (hu : u < 18446744073709551616) : Calls Try.prog 41 #[.int .u8 3, .int .u64 v, .int .u64 u] w fun e w' => e = .returned (.tuple #[.int .u64 (((cmpN 64 1 v u).toNat : Nat)), .int .i64 (0)]) ∧ w = w' := by
  obtain ⟨d, hd⟩ : ∃ d, d = cmpN 64 1 v u := ⟨_, rfl⟩
  rw [← hd]
  have hd2 : ((v : Int) != (u : Int)) = d := by rw [hd, bne, int_beq]; rfl
  clear hd
  have HT := Lib.hid (awtruth d w)
  go_enter Try.func41, Try.ntmps41
  go_wp2_with (go_at_call 57; (with_reducible refine HT.out.mono ?_); rintro e w0 ⟨rfl, rfl⟩)
  go_ret2
  exact ⟨rfl, rfl⟩
theorem awcmp2 {w : World} (v u : Nat) (hv : v < 18446744073709551616) (hu : u < 18446744073709551616) : Calls Try.prog 41 #[.int .u8 4, .int .u64 v, .int .u64 u] w fun e w' => e = .returned (.tuple #[.int .u64 (((cmpN 64 2 v u).toNat : Nat)), .int .i64 (0)]) ∧ w = w' := by
  obtain ⟨d, hd⟩ : ∃ d, d = cmpN 64 2 v u := ⟨_, rfl⟩
  rw [← hd]
  have hd2 : decide (sg 64 v < sg 64 u) = d := by rw [hd]; rfl
  clear hd
  have HS0 := Lib.hid (fun W => awsgn (w := W) v hv)
  have HS1 := Lib.hid (fun W => awsgn (w := W) u hu)
  generalize sg 64 v = x at *
  generalize sg 64 u = y at *
  have HT := Lib.hid (awtruth d w)
  go_enter Try.func41, Try.ntmps41
  go_wp2_with (first | (go_at_call 55; (with_reducible refine (HS0.out _).mono ?_); rintro e w0 ⟨rfl, rfl⟩) | (go_at_call 55; (with_reducible refine (HS1.out _).mono ?_); rintro e w0 ⟨rfl, rfl⟩) | (go_at_call 57; (with_reducible refine HT.out.mono ?_); rintro e w0 ⟨rfl, rfl⟩))
  go_ret2
  exact ⟨rfl, rfl⟩
theorem awcmp3 {w : World} (v u : Nat) (hv : v < 18446744073709551616) (hu : u < 18446744073709551616) : Calls Try.prog 41 #[.int .u8 5, .int .u64 v, .int .u64 u] w fun e w' => e = .returned (.tuple #[.int .u64 (((cmpN 64 3 v u).toNat : Nat)), .int .i64 (0)]) ∧ w = w' := by
  obtain ⟨d, hd⟩ : ∃ d, d = cmpN 64 3 v u := ⟨_, rfl⟩
  rw [← hd]
  have hd2 : decide (v < u) = d := by rw [hd]; rfl
  clear hd
  have HT := Lib.hid (awtruth d w)
  go_enter Try.func41, Try.ntmps41
  go_wp2_with (go_at_call 57; (with_reducible refine HT.out.mono ?_); rintro e w0 ⟨rfl, rfl⟩)
  go_ret2
  exact ⟨rfl, rfl⟩
theorem awcmp4 {w : World} (v u : Nat) (hv : v < 18446744073709551616) (hu : u < 18446744073709551616) : Calls Try.prog 41 #[.int .u8 6, .int .u64 v, .int .u64 u] w fun e w' => e = .returned (.tuple #[.int .u64 (((cmpN 64 4 v u).toNat : Nat)), .int .i64 (0)]) ∧ w = w' := by
  obtain ⟨d, hd⟩ : ∃ d, d = cmpN 64 4 v u := ⟨_, rfl⟩
  rw [← hd]
  have hd2 : decide (sg 64 v > sg 64 u) = d := by rw [hd]; rfl
  clear hd
  have HS0 := Lib.hid (fun W => awsgn (w := W) v hv)
  have HS1 := Lib.hid (fun W => awsgn (w := W) u hu)
  generalize sg 64 v = x at *
  generalize sg 64 u = y at *
  have HT := Lib.hid (awtruth d w)
  go_enter Try.func41, Try.ntmps41
  go_wp2_with (first | (go_at_call 55; (with_reducible refine (HS0.out _).mono ?_); rintro e w0 ⟨rfl, rfl⟩) | (go_at_call 55; (with_reducible refine (HS1.out _).mono ?_); rintro e w0 ⟨rfl, rfl⟩) | (go_at_call 57; (with_reducible refine HT.out.mono ?_); rintro e w0 ⟨rfl, rfl⟩))
  go_ret2
  exact ⟨rfl, rfl⟩
theorem awcmp5 {w : World} (v u : Nat) (hv : v < 18446744073709551616) (hu : u < 18446744073709551616) : Calls Try.prog 41 #[.int .u8 7, .int .u64 v, .int .u64 u] w fun e w' => e = .returned (.tuple #[.int .u64 (((cmpN 64 5 v u).toNat : Nat)), .int .i64 (0)]) ∧ w = w' := by
  obtain ⟨d, hd⟩ : ∃ d, d = cmpN 64 5 v u := ⟨_, rfl⟩
  rw [← hd]
  have hd2 : decide (v > u) = d := by rw [hd]; rfl
  clear hd
  have HT := Lib.hid (awtruth d w)
  go_enter Try.func41, Try.ntmps41
  go_wp2_with (go_at_call 57; (with_reducible refine HT.out.mono ?_); rintro e w0 ⟨rfl, rfl⟩)
  go_ret2
  exact ⟨rfl, rfl⟩
theorem awcmp6 {w : World} (v u : Nat) (hv : v < 18446744073709551616) (hu : u < 18446744073709551616) : Calls Try.prog 41 #[.int .u8 8, .int .u64 v, .int .u64 u] w fun e w' => e = .returned (.tuple #[.int .u64 (((cmpN 64 6 v u).toNat : Nat)), .int .i64 (0)]) ∧ w = w' := by
  obtain ⟨d, hd⟩ : ∃ d, d = cmpN 64 6 v u := ⟨_, rfl⟩
  rw [← hd]
  have hd2 : decide (sg 64 v ≤ sg 64 u) = d := by rw [hd]; rfl
  clear hd
  have HS0 := Lib.hid (fun W => awsgn (w := W) v hv)
  have HS1 := Lib.hid (fun W => awsgn (w := W) u hu)
  generalize sg 64 v = x at *
  generalize sg 64 u = y at *
  have HT := Lib.hid (awtruth d w)
  go_enter Try.func41, Try.ntmps41
  go_wp2_with (first | (go_at_call 55; (with_reducible refine (HS0.out _).mono ?_); rintro e w0 ⟨rfl, rfl⟩) | (go_at_call 55; (with_reducible refine (HS1.out _).mono ?_); rintro e w0 ⟨rfl, rfl⟩) | (go_at_call 57; (with_reducible refine HT.out.mono ?_); rintro e w0 ⟨rfl, rfl⟩))
  go_ret2
  exact ⟨rfl, rfl⟩
theorem awcmp7 {w : World} (v u : Nat) (hv : v < 18446744073709551616) (hu : u < 18446744073709551616) : Calls Try.prog 41 #[.int .u8 9, .int .u64 v, .int .u64 u] w fun e w' => e = .returned (.tuple #[.int .u64 (((cmpN 64 7 v u).toNat : Nat)), .int .i64 (0)]) ∧ w = w' := by
  obtain ⟨d, hd⟩ : ∃ d, d = cmpN 64 7 v u := ⟨_, rfl⟩
  rw [← hd]
  have hd2 : decide (v ≤ u) = d := by rw [hd]; rfl
  clear hd
  have HT := Lib.hid (awtruth d w)
  go_enter Try.func41, Try.ntmps41
  go_wp2_with (go_at_call 57; (with_reducible refine HT.out.mono ?_); rintro e w0 ⟨rfl, rfl⟩)
  go_ret2
  exact ⟨rfl, rfl⟩
theorem awcmp8 {w : World} (v u : Nat) (hv : v < 18446744073709551616) (hu : u < 18446744073709551616) : Calls Try.prog 41 #[.int .u8 10, .int .u64 v, .int .u64 u] w fun e w' => e = .returned (.tuple #[.int .u64 (((cmpN 64 8 v u).toNat : Nat)), .int .i64 (0)]) ∧ w = w' := by
  obtain ⟨d, hd⟩ : ∃ d, d = cmpN 64 8 v u := ⟨_, rfl⟩
  rw [← hd]
  have hd2 : decide (sg 64 v ≥ sg 64 u) = d := by rw [hd]; rfl
  clear hd
  have HS0 := Lib.hid (fun W => awsgn (w := W) v hv)
  have HS1 := Lib.hid (fun W => awsgn (w := W) u hu)
  generalize sg 64 v = x at *
  generalize sg 64 u = y at *
  have HT := Lib.hid (awtruth d w)
  go_enter Try.func41, Try.ntmps41
  go_wp2_with (first | (go_at_call 55; (with_reducible refine (HS0.out _).mono ?_); rintro e w0 ⟨rfl, rfl⟩) | (go_at_call 55; (with_reducible refine (HS1.out _).mono ?_); rintro e w0 ⟨rfl, rfl⟩) | (go_at_call 57; (with_reducible refine HT.out.mono ?_); rintro e w0 ⟨rfl, rfl⟩))
  go_ret2
  exact ⟨rfl, rfl⟩
theorem awcmp9 {w : World} (v u : Nat) (hv : v < 18446744073709551616) (hu : u < 18446744073709551616) : Calls Try.prog 41 #[.int .u8 11, .int .u64 v, .int .u64 u] w fun e w' => e = .returned (.tuple #[.int .u64 (((cmpN 64 9 v u).toNat : Nat)), .int .i64 (0)]) ∧ w = w' := by
  obtain ⟨d, hd⟩ : ∃ d, d = cmpN 64 9 v u := ⟨_, rfl⟩
  rw [← hd]
  have hd2 : decide (v ≥ u) = d := by rw [hd]; rfl
  clear hd
  have HT := Lib.hid (awtruth d w)
  go_enter Try.func41, Try.ntmps41
  go_wp2_with (go_at_call 57; (with_reducible refine HT.out.mono ?_); rintro e w0 ⟨rfl, rfl⟩)
  go_ret2
  exact ⟨rfl, rfl⟩
theorem awcmpNot {w : World} (op : Int) (v u : Nat) (hv : v < 18446744073709551616) (hu : u < 18446744073709551616) (h : op < 2 ∨ 11 < op) : Calls Try.prog 41 #[.int .u8 op, .int .u64 v, .int .u64 u] w fun e w' => e = .returned (.tuple #[.int .u64 (0), .int .i64 (9)]) ∧ w = w' := by
  have d0 : (op == 2) = false := by simp; omega
  have d1 : (op == 3) = false := by simp; omega
  have d2 : (op == 4) = false := by simp; omega
  have d3 : (op == 5) = false := by simp; omega
  have d4 : (op == 6) = false := by simp; omega
  have d5 : (op == 7) = false := by simp; omega
  have d6 : (op == 8) = false := by simp; omega
  have d7 : (op == 9) = false := by simp; omega
  have d8 : (op == 10) = false := by simp; omega
  have d9 : (op == 11) = false := by simp; omega
  clear h
  go_enter Try.func41, Try.ntmps41
  go_wp2
  go_ret2
  exact ⟨rfl, rfl⟩
end Go.Proofs.Ytjgdfajooccalaa

/- Package arith at 64 bits: Two, and wide.Two, as plain functions of numbers. (By gen/genAr.py.) -/
namespace Go.Proofs.Ytjgdfajooccalaa
open Go.RowKit
set_option linter.unusedVariables false
set_option maxRecDepth 100000
theorem awtwo0 {w : World} (v u : Nat) (hv : v < 18446744073709551616) (hu : u < 18446744073709551616) : Calls Try.prog 15 #[.int .u8 15, .int .u64 v, .int .u64 u] w fun e w' => e = .returned (.tuple #[.int .u64 (((v + u) % 2 ^ 64 : Nat)), .int .i64 (0)]) ∧ w = w' := by
  obtain ⟨r, hr2⟩ : ∃ r : Nat, r = (v + u) % 2 ^ 64 := ⟨_, rfl⟩
  rw [← hr2]
  have q : IntKind.u64.wrap ((v : Int) + (u : Int)) = (r : Int) := by rw [IntKind.wrap_u64, hr2, show 2 ^ 64 = 18446744073709551616 by decide]; omega
  clear hr2
  go_enter Try.func15, Try.ntmps15
  go_wp2
  go_ret2
  first | exact ⟨rfl, rfl⟩ | exact ⟨congrArg (fun z => Ending.returned (Value.tuple #[Value.int .u64 z, Value.int .i64 0])) q, rfl⟩
theorem awtwo1 {w : World} (v u : Nat) (hv : v < 18446744073709551616) (hu : u < 18446744073709551616) : Calls Try.prog 15 #[.int .u8 16, .int .u64 v, .int .u64 u] w fun e w' => e = .returned (.tuple #[.int .u64 (((v + (2 ^ 64 - u)) % 2 ^ 64 : Nat)), .int .i64 (0)]) ∧ w = w' := by
  obtain ⟨r, hr2⟩ : ∃ r : Nat, r = (v + (2 ^ 64 - u)) % 2 ^ 64 := ⟨_, rfl⟩
  rw [← hr2]
  have q : IntKind.u64.wrap ((v : Int) - (u : Int)) = (r : Int) := by rw [IntKind.wrap_u64, hr2, show 2 ^ 64 = 18446744073709551616 by decide]; omega
  clear hr2
  go_enter Try.func15, Try.ntmps15
  go_wp2
  go_ret2
  first | exact ⟨rfl, rfl⟩ | exact ⟨congrArg (fun z => Ending.returned (Value.tuple #[Value.int .u64 z, Value.int .i64 0])) q, rfl⟩
theorem awtwo2 {w : World} (v u : Nat) (hv : v < 18446744073709551616) (hu : u < 18446744073709551616) : Calls Try.prog 15 #[.int .u8 17, .int .u64 v, .int .u64 u] w fun e w' => e = .returned (.tuple #[.int .u64 ((v * u % 2 ^ 64 : Nat)), .int .i64 (0)]) ∧ w = w' := by
  obtain ⟨r, hr2⟩ : ∃ r : Nat, r = v * u % 2 ^ 64 := ⟨_, rfl⟩
  rw [← hr2]
  have q : IntKind.u64.wrap ((v : Int) * (u : Int)) = (r : Int) := by rw [IntKind.wrap_u64, hr2, show 2 ^ 64 = 18446744073709551616 by decide, Int.natCast_emod, Int.natCast_mul]; rfl
  clear hr2
  go_enter Try.func15, Try.ntmps15
  go_wp2
  go_ret2
  first | exact ⟨rfl, rfl⟩ | exact ⟨congrArg (fun z => Ending.returned (Value.tuple #[Value.int .u64 z, Value.int .i64 0])) q, rfl⟩
theorem awtwo7 {w : World} (v u : Nat) (hv : v < 18446744073709551616) (hu : u < 18446744073709551616) : Calls Try.prog 15 #[.int .u8 22, .int .u64 v, .int .u64 u] w fun e w' => e = .returned (.tuple #[.int .u64 (((v &&& u) % 2 ^ 64 : Nat)), .int .i64 (0)]) ∧ w = w' := by
  obtain ⟨r, hr2⟩ : ∃ r : Nat, r = (v &&& u) % 2 ^ 64 := ⟨_, rfl⟩
  rw [← hr2]
  have q : bits .and .u64 (v : Int) (u : Int) = (r : Int) := by rw [hr2, u64_and_nat _ _ hv hu, Nat.mod_eq_of_lt (Nat.and_lt_two_pow _ (show u < 2 ^ 64 from hu))]
  clear hr2
  go_enter Try.func15, Try.ntmps15
  go_wp2
  go_ret2
  first | exact ⟨rfl, rfl⟩ | exact ⟨congrArg (fun z => Ending.returned (Value.tuple #[Value.int .u64 z, Value.int .i64 0])) q, rfl⟩
theorem awtwo8 {w : World} (v u : Nat) (hv : v < 18446744073709551616) (hu : u < 18446744073709551616) : Calls Try.prog 15 #[.int .u8 23, .int .u64 v, .int .u64 u] w fun e w' => e = .returned (.tuple #[.int .u64 (((v ||| u) % 2 ^ 64 : Nat)), .int .i64 (0)]) ∧ w = w' := by
  obtain ⟨r, hr2⟩ : ∃ r : Nat, r = (v ||| u) % 2 ^ 64 := ⟨_, rfl⟩
  rw [← hr2]
  have q : bits .or .u64 (v : Int) (u : Int) = (r : Int) := by rw [hr2, u64_or_nat _ _ hv hu, Nat.mod_eq_of_lt (Nat.or_lt_two_pow (show v < 2 ^ 64 from hv) (show u < 2 ^ 64 from hu))]
  clear hr2
  go_enter Try.func15, Try.ntmps15
  go_wp2
  go_ret2
  first | exact ⟨rfl, rfl⟩ | exact ⟨congrArg (fun z => Ending.returned (Value.tuple #[Value.int .u64 z, Value.int .i64 0])) q, rfl⟩
theorem awtwo9 {w : World} (v u : Nat) (hv : v < 18446744073709551616) (hu : u < 18446744073709551616) : Calls Try.prog 15 #[.int .u8 24, .int .u64 v, .int .u64 u] w fun e w' => e = .returned (.tuple #[.int .u64 (((v ^^^ u) % 2 ^ 64 : Nat)), .int .i64 (0)]) ∧ w = w' := by
  obtain ⟨r, hr2⟩ : ∃ r : Nat, r = (v ^^^ u) % 2 ^ 64 := ⟨_, rfl⟩
  rw [← hr2]
  have q : bits .xor .u64 (v : Int) (u : Int) = (r : Int) := by rw [hr2, u64_xor_nat _ _ hv hu, Nat.mod_eq_of_lt (Nat.xor_lt_two_pow (show v < 2 ^ 64 from hv) (show u < 2 ^ 64 from hu))]
  clear hr2
  go_enter Try.func15, Try.ntmps15
  go_wp2
  go_ret2
  first | exact ⟨rfl, rfl⟩ | exact ⟨congrArg (fun z => Ending.returned (Value.tuple #[Value.int .u64 z, Value.int .i64 0])) q, rfl⟩
theorem awtwo3 {w : World} (v u : Nat) (hv : v < 18446744073709551616) (hu : u < 18446744073709551616) : Calls Try.prog 15 #[.int .u8 18, .int .u64 v, .int .u64 u] w fun e w' => e = .returned (.tuple #[.int .u64 ((quoN 64 0 v u).1), .int .i64 ((quoN 64 0 v u).2)]) ∧ w = w' := by
  have HD := Lib.hid (awdiv0 (w := w) v u hv hu)
  generalize quoN 64 0 v u = p at *
  go_enter Try.func15, Try.ntmps15
  go_wp2_with (go_at_call 38; (with_reducible refine HD.out.mono ?_); rintro e w0 ⟨rfl, rfl⟩)
  go_ret2
  exact ⟨rfl, rfl⟩
theorem awtwo4 {w : World} (v u : Nat) (hv : v < 18446744073709551616) (hu : u < 18446744073709551616) : Calls Try.prog 15 #[.int .u8 19, .int .u64 v, .int .u64 u] w fun e w' => e = .returned (.tuple #[.int .u64 ((quoN 64 1 v u).1), .int .i64 ((quoN 64 1 v u).2)]) ∧ w = w' := by
  have HD := Lib.hid (awdiv1 (w := w) v u hv hu)
  generalize quoN 64 1 v u = p at *
  go_enter Try.func15, Try.ntmps15
  go_wp2_with (go_at_call 38; (with_reducible refine HD.out.mono ?_); rintro e w0 ⟨rfl, rfl⟩)
  go_ret2
  exact ⟨rfl, rfl⟩
theorem awtwo5 {w : World} (v u : Nat) (hv : v < 18446744073709551616) (hu : u < 18446744073709551616) : Calls Try.prog 15 #[.int .u8 20, .int .u64 v, .int .u64 u] w fun e w' => e = .returned (.tuple #[.int .u64 ((quoN 64 2 v u).1), .int .i64 ((quoN 64 2 v u).2)]) ∧ w = w' := by
  have HD := Lib.hid (awdiv2 (w := w) v u hv hu)
  generalize quoN 64 2 v u = p at *
  go_enter Try.func15, Try.ntmps15
  go_wp2_with (go_at_call 38; (with_reducible refine HD.out.mono ?_); rintro e w0 ⟨rfl, rfl⟩)
  go_ret2
  exact ⟨rfl, rfl⟩
theorem awtwo6 {w : World} (v u : Nat) (hv : v < 18446744073709551616) (hu : u < 18446744073709551616) : Calls Try.prog 15 #[.int .u8 21, .int .u64 v, .int .u64 u] w fun e w' => e = .returned (.tuple #[.int .u64 ((quoN 64 3 v u).1), .int .i64 ((quoN 64 3 v u).2)]) ∧ w = w' := by
  have HD := Lib.hid (awdiv3 (w := w) v u hv hu)
  generalize quoN 64 3 v u = p at *
  go_enter Try.func15, Try.ntmps15
  go_wp2_with (go_at_call 38; (with_reducible refine HD.out.mono ?_); rintro e w0 ⟨rfl, rfl⟩)
  go_ret2
  exact ⟨rfl, rfl⟩
theorem awtwo10 {w : World} (v u : Nat) (hv : v < 18446744073709551616) (hu : u < 18446744073709551616) : Calls Try.prog 15 #[.int .u8 25, .int .u64 v, .int .u64 u] w fun e w' => e = .returned (.tuple #[.int .u64 ((v * 2 ^ (u % 64) % 18446744073709551616 : Nat)), .int .i64 (0)]) ∧ w = w' := by
  have HD := Lib.hid (awsh0 (w := w) v (u % 64) hv (by omega))
  have e1 : (u : Int) % 64 = ((u % 64 : Nat) : Int) := by omega
  generalize u % 64 = q at *
  generalize v * 2 ^ q % 18446744073709551616 = r at *
  have HW := Lib.hid (fun W => awwid (w := W))
  go_enter Try.func15, Try.ntmps15
  go_wp2_with (first | (go_at_call 40; (with_reducible refine (HW.out _).mono ?_); rintro e w0 ⟨rfl, rfl⟩) | (go_at_call 39; (with_reducible refine HD.out.mono ?_); rintro e w0 ⟨rfl, rfl⟩))
  go_ret2
  exact ⟨rfl, rfl⟩
theorem awtwo11 {w : World} (v u : Nat) (hv : v < 18446744073709551616) (hu : u < 18446744073709551616) : Calls Try.prog 15 #[.int .u8 26, .int .u64 v, .int .u64 u] w fun e w' => e = .returned (.tuple #[.int .u64 (((sg 64 v / 2 ^ (u % 64) % 18446744073709551616).toNat : Nat)), .int .i64 (0)]) ∧ w = w' := by
  have HD := Lib.hid (awsh1 (w := w) v (u % 64) hv (by omega))
  have e1 : (u : Int) % 64 = ((u % 64 : Nat) : Int) := by omega
  generalize u % 64 = q at *
  generalize (sg 64 v / 2 ^ q % 18446744073709551616).toNat = r at *
  have HW := Lib.hid (fun W => awwid (w := W))
  go_enter Try.func15, Try.ntmps15
  go_wp2_with (first | (go_at_call 40; (with_reducible refine (HW.out _).mono ?_); rintro e w0 ⟨rfl, rfl⟩) | (go_at_call 39; (with_reducible refine HD.out.mono ?_); rintro e w0 ⟨rfl, rfl⟩))
  go_ret2
  exact ⟨rfl, rfl⟩
theorem awtwo12 {w : World} (v u : Nat) (hv : v < 18446744073709551616) (hu : u < 18446744073709551616) : Calls Try.prog 15 #[.int .u8 27, .int .u64 v, .int .u64 u] w fun e w' => e = .returned (.tuple #[.int .u64 ((v / 2 ^ (u % 64) : Nat)), .int .i64 (0)]) ∧ w = w' := by
  have HD := Lib.hid (awsh2 (w := w) v (u % 64) hv (by omega))
  have e1 : (u : Int) % 64 = ((u % 64 : Nat) : Int) := by omega
  generalize u % 64 = q at *
  generalize v / 2 ^ q = r at *
  have HW := Lib.hid (fun W => awwid (w := W))
  go_enter Try.func15, Try.ntmps15
  go_wp2_with (first | (go_at_call 40; (with_reducible refine (HW.out _).mono ?_); rintro e w0 ⟨rfl, rfl⟩) | (go_at_call 39; (with_reducible refine HD.out.mono ?_); rintro e w0 ⟨rfl, rfl⟩))
  go_ret2
  exact ⟨rfl, rfl⟩
theorem awtwo13 {w : World} (v u : Nat) (hv : v < 18446744073709551616) (hu : u < 18446744073709551616) : Calls Try.prog 15 #[.int .u8 28, .int .u64 v, .int .u64 u] w fun e w' => e = .returned (.tuple #[.int .u64 ((rotN 64 v (u % 64) : Nat)), .int .i64 (0)]) ∧ w = w' := by
  have HD := Lib.hid (awsh3 (w := w) v (u % 64) hv (by omega))
  have e1 : (u : Int) % 64 = ((u % 64 : Nat) : Int) := by omega
  generalize u % 64 = q at *
  generalize rotN 64 v q = r at *
  have HW := Lib.hid (fun W => awwid (w := W))
  go_enter Try.func15, Try.ntmps15
  go_wp2_with (first | (go_at_call 40; (with_reducible refine (HW.out _).mono ?_); rintro e w0 ⟨rfl, rfl⟩) | (go_at_call 39; (with_reducible refine HD.out.mono ?_); rintro e w0 ⟨rfl, rfl⟩))
  go_ret2
  exact ⟨rfl, rfl⟩
theorem awtwo14 {w : World} (v u : Nat) (hv : v < 18446744073709551616) (hu : u < 18446744073709551616) : Calls Try.prog 15 #[.int .u8 29, .int .u64 v, .int .u64 u] w fun e w' => e = .returned (.tuple #[.int .u64 ((rotN 64 v ((64 - u % 64) % 64) : Nat)), .int .i64 (0)]) ∧ w = w' := by
  have HD := Lib.hid (awsh4 (w := w) v (u % 64) hv (by omega))
  have e1 : (u : Int) % 64 = ((u % 64 : Nat) : Int) := by omega
  generalize u % 64 = q at *
  generalize rotN 64 v ((64 - q) % 64) = r at *
  have HW := Lib.hid (fun W => awwid (w := W))
  go_enter Try.func15, Try.ntmps15
  go_wp2_with (first | (go_at_call 40; (with_reducible refine (HW.out _).mono ?_); rintro e w0 ⟨rfl, rfl⟩) | (go_at_call 39; (with_reducible refine HD.out.mono ?_); rintro e w0 ⟨rfl, rfl⟩))
  go_ret2
  exact ⟨rfl, rfl⟩
theorem awtwoCmp {w : World} (op : Int) (v u : Nat) (x y : Int) (h : op < 15 ∨ 29 < op) (hC : Calls Try.prog 41 #[.int .u8 op, .int .u64 v, .int .u64 u] w fun e w' => e = .returned (.tuple #[.int .u64 (x), .int .i64 (y)]) ∧ w = w') : Calls Try.prog 15 #[.int .u8 op, .int .u64 v, .int .u64 u] w fun e w' => e = .returned (.tuple #[.int .u64 (x), .int .i64 (y)]) ∧ w = w' := by
  have HC := Lib.hid hC
  clear hC
  have d0 : (op == 15) = false := by simp; omega
  have d1 : (op == 16) = false := by simp; omega
  have d2 : (op == 17) = false := by simp; omega
  have d3 : (op == 18) = false := by simp; omega
  have d4 : (op == 19) = false := by simp; omega
  have d5 : (op == 20) = false := by simp; omega
  have d6 : (op == 21) = false := by simp; omega
  have d7 : (op == 22) = false := by simp; omega
  have d8 : (op == 23) = false := by simp; omega
  have d9 : (op == 24) = false := by simp; omega
  have d10 : (op == 25) = false := by simp; omega
  have d11 : (op == 26) = false := by simp; omega
  have d12 : (op == 27) = false := by simp; omega
  have d13 : (op == 28) = false := by simp; omega
  have d14 : (op == 29) = false := by simp; omega
  clear h
  go_enter Try.func15, Try.ntmps15
  go_wp2_with (go_at_call 41; (with_reducible refine HC.out.mono ?_); rintro e w0 ⟨rfl, rfl⟩)
  go_ret2
  exact ⟨rfl, rfl⟩
theorem awtwoA {w : World} (op v u : Nat) (ho : op < 256) (hv : v < 18446744073709551616) (hu : u < 18446744073709551616) : Calls Try.prog 15 #[.int .u8 (ofN 81 124 op), .int .u64 v, .int .u64 u] w fun e w' => e = .returned (.tuple #[.int .u64 ((twoN 64 81 124 op v u).1), .int .i64 ((twoN 64 81 124 op v u).2)]) ∧ w = w' := by
  by_cases hc : 81 ≤ op ∧ op ≤ 90
  · have e : twoN 64 81 124 op v u = ((cmpN 64 (op - 81) v u).toNat, 0) := by unfold twoN; rw [if_pos hc]
    have eo : ofN 81 124 op = 2 + (op - 81) := by unfold ofN; rw [if_pos (by omega)]; omega
    rw [e, eo]
    obtain ⟨k, rfl, hk⟩ : ∃ k, op = 81 + k ∧ k < 10 := ⟨op - 81, by omega, by omega⟩
    rw [show 81 + k - 81 = k by omega]
    refine awtwoCmp _ v u _ _ (by omega) ?_
    clear e eo hc
    match k, hk with
    | 0, _ => exact awcmp0 v u hv hu
    | 1, _ => exact awcmp1 v u hv hu
    | 2, _ => exact awcmp2 v u hv hu
    | 3, _ => exact awcmp3 v u hv hu
    | 4, _ => exact awcmp4 v u hv hu
    | 5, _ => exact awcmp5 v u hv hu
    | 6, _ => exact awcmp6 v u hv hu
    | 7, _ => exact awcmp7 v u hv hu
    | 8, _ => exact awcmp8 v u hv hu
    | 9, _ => exact awcmp9 v u hv hu
    | k + 10, h => omega
  by_cases ha : 124 ≤ op ∧ op ≤ 138
  · have e : twoN 64 81 124 op v u = arN 64 (op - 124) v u := by unfold twoN; rw [if_neg hc, if_pos ha]
    have eo : ofN 81 124 op = 15 + (op - 124) := by unfold ofN; rw [if_neg (by omega), if_pos (by omega)]; omega
    rw [e, eo]
    obtain ⟨k, rfl, hk⟩ : ∃ k, op = 124 + k ∧ k < 15 := ⟨op - 124, by omega, by omega⟩
    rw [show 124 + k - 124 = k by omega]
    clear e eo hc ha
    match k, hk with
    | 0, _ => exact awtwo0 v u hv hu
    | 1, _ => exact awtwo1 v u hv hu
    | 2, _ => exact awtwo2 v u hv hu
    | 3, _ => exact awtwo3 v u hv hu
    | 4, _ => exact awtwo4 v u hv hu
    | 5, _ => exact awtwo5 v u hv hu
    | 6, _ => exact awtwo6 v u hv hu
    | 7, _ => exact awtwo7 v u hv hu
    | 8, _ => exact awtwo8 v u hv hu
    | 9, _ => exact awtwo9 v u hv hu
    | 10, _ => exact awtwo10 v u hv hu
    | 11, _ => exact awtwo11 v u hv hu
    | 12, _ => exact awtwo12 v u hv hu
    | 13, _ => exact awtwo13 v u hv hu
    | 14, _ => exact awtwo14 v u hv hu
    | k + 15, h => omega
  · have e : twoN 64 81 124 op v u = (0, 9) := by unfold twoN; rw [if_neg hc, if_neg ha]
    have eo : ofN 81 124 op < 2 ∨ (11 < ofN 81 124 op ∧ ofN 81 124 op < 15) := by unfold ofN; split <;> (try split) <;> omega
    rw [e]
    exact awtwoCmp _ v u _ _ (by omega) (awcmpNot _ v u hv hu (by omega))
theorem awof {w : World} (op : Nat) (ho : op < 256) : Calls Try.prog 16 #[.int .u8 op, .int .u8 80, .int .u8 121] w fun e w' => e = .returned (.int .u8 (ofN 81 124 op)) ∧ w = w' := by
  obtain ⟨n, hn⟩ : ∃ n : Nat, n = (op + 256 - 80) % 256 := ⟨_, rfl⟩
  obtain ⟨m, hm⟩ : ∃ m : Nat, m = (op + 256 - 121) % 256 := ⟨_, rfl⟩
  have e1 : IntKind.u8.wrap ((op : Int) - 80) = n := by rw [IntKind.wrap_u8]; omega
  have e2 : IntKind.u8.wrap ((op : Int) - 121) = m := by rw [IntKind.wrap_u8]; omega
  have e3 : ((op : Int) - 80) % 256 = n := by omega
  have e4 : ((op : Int) - 121) % 256 = m := by omega
  by_cases h1 : n ≤ 10
  · have hr : ofN 81 124 op = 1 + n := by unfold ofN; rw [if_pos (by omega)]; omega
    have q : IntKind.u8.wrap (1 + (n : Int)) = ((1 + n : Nat) : Int) := by rw [IntKind.wrap_u8]; omega
    have q1 : (1 + (n : Int)) % 256 = ((1 + n : Nat) : Int) := by omega
    rw [hr]
    generalize 1 + n = r at *
    clear hn hm hr e2 e4
    go_enter Try.func16, Try.ntmps16
    go_wp2
    go_ret
    exact ⟨rfl, rfl⟩
  by_cases h2 : m ≤ 17
  · have hr : ofN 81 124 op = 12 + m := by unfold ofN; rw [if_neg (by omega), if_pos (by omega)]; omega
    have q : IntKind.u8.wrap (12 + (m : Int)) = ((12 + m : Nat) : Int) := by rw [IntKind.wrap_u8]; omega
    have q1 : (12 + (m : Int)) % 256 = ((12 + m : Nat) : Int) := by omega
    rw [hr]
    generalize 12 + m = r at *
    clear hn hm hr
    go_enter Try.func16, Try.ntmps16
    go_wp2
    go_ret
    exact ⟨rfl, rfl⟩
  · have hr : ofN 81 124 op = 0 := by unfold ofN; rw [if_neg (by omega), if_neg (by omega)]
    rw [hr]
    clear hn hm hr
    go_enter Try.func16, Try.ntmps16
    go_wp2
    go_ret
    exact ⟨rfl, rfl⟩
theorem aw_two {w : World} (op v u : Nat) (hv : v < 18446744073709551616) (hu : u < 18446744073709551616) (ho : op < 256 := by decide) : Calls Try.prog 8 #[.int .u8 op, .int .u64 v, .int .u64 u] w fun e w' => e = .returned (.tuple #[.int .u64 ((twoN 64 81 124 op v u).1), .int .i64 ((twoN 64 81 124 op v u).2)]) ∧ w = w' := by
  have HO := Lib.hid (awof (w := w) op ho)
  have HT := Lib.hid (awtwoA (w := w) op v u ho hv hu)
  generalize twoN 64 81 124 op v u = p at *
  generalize ofN 81 124 op = r at *
  go_enter Try.func8, Try.ntmps8
  go_wp2_with (first | (go_at_call 16; (with_reducible refine HO.out.mono ?_); rintro e w0 ⟨rfl, rfl⟩) | (go_at_call 15; (with_reducible refine HT.out.mono ?_); rintro e w0 ⟨rfl, rfl⟩))
  go_ret2
  exact ⟨rfl, rfl⟩
end Go.Proofs.Ytjgdfajooccalaa
