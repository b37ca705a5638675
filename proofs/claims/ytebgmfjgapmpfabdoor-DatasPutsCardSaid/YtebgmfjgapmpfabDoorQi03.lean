/- Shifts by a count that is a variable; bounds of a number off its groups. -/
import Derived.Test.YtebgmfjgapmpfabDoorQi02
import Derived.Test.YtebgmfjgapmpfabDoorQi01
import Derived.WalkLawsBesides
import Derived.Defers
import Derived.Recover
import Derived.Lib.Hide
import Derived.Deep.QuietTactic
import Derived.BigQuiet
import Derived.StillTailTactics
import Derived.Deep.DeepMust
import Derived.Laws.AppendOwnNone
namespace Go.Proofs.YtebgmfjgapmpfabDoor
set_option linter.unusedVariables false
open Go.RowKit

theorem shr8 (c : Int) (t : Nat) (h0 : 0 ≤ c) (h1 : c < 128) : Op.shift .shr .u8 c .i64 (t : Int) = pure (.int .u8 (c / 2 ^ t)) := by
  rw [shift_shr_any _ _ _ _ (by omega)]
  have e : c / 2 ^ min (t : Int).toNat IntKind.u8.bits = c / 2 ^ t := by
    show c / 2 ^ min (t : Int).toNat 8 = c / 2 ^ t
    rw [Int.toNat_natCast]
    rcases Nat.le_total t 8 with g | g
    · rw [Nat.min_eq_left g]
    · rw [Nat.min_eq_right g]
      have hm := mono2 g
      have e8 : (2 : Int) ^ 8 = 256 := rfl
      rw [Int.ediv_eq_zero_of_lt h0 (by omega), Int.ediv_eq_zero_of_lt h0 (by omega)]
  rw [e]
theorem shr64 (c : Int) (t : Nat) (ht : t ≤ 64) : Op.shift .shr .i64 c .i64 (t : Int) = pure (.int .i64 (c / 2 ^ t)) := by
  rw [shift_shr_any _ _ _ _ (by omega)]
  show pure (Value.int .i64 (c / 2 ^ min (t : Int).toNat 64)) = _
  rw [Int.toNat_natCast, Nat.min_eq_left ht]
theorem shl64u (c : Int) (t : Nat) (ht : t ≤ 64) (h0 : 0 ≤ c * 2 ^ t) (h1 : c * 2 ^ t < 18446744073709551616) : Op.shift .shl .u64 c .i64 (t : Int) = pure (.int .u64 (c * 2 ^ t)) := by
  rw [shift_shl_any _ _ _ _ (by omega)]
  show pure (Value.int .u64 (IntKind.u64.wrap (c * 2 ^ min (t : Int).toNat 64))) = _
  rw [Int.toNat_natCast, Nat.min_eq_left ht]
  generalize c * 2 ^ t = z at *
  have e : IntKind.u64.wrap z = z := by simp only [IntKind.wrap, IntKind.bits, IntKind.signed]; simp; omega
  rw [e]
theorem shl64i (c : Int) (t : Nat) (ht : t ≤ 64) (h0 : -9223372036854775808 ≤ c * 2 ^ t) (h1 : c * 2 ^ t < 9223372036854775808) : Op.shift .shl .i64 c .i64 (t : Int) = pure (.int .i64 (c * 2 ^ t)) := by
  rw [shift_shl_any _ _ _ _ (by omega)]
  show pure (Value.int .i64 (IntKind.i64.wrap (c * 2 ^ min (t : Int).toNat 64))) = _
  rw [Int.toNat_natCast, Nat.min_eq_left ht]
  generalize c * 2 ^ t = z at *
  have e : IntKind.i64.wrap z = z := by rw [IntKind.wrap_i64]; omega
  rw [e]

/-- v + c * 2^a, v below 2^a: over 2^a it is c. -/
theorem over_low {v c : Int} {a : Nat} (h0 : 0 ≤ v) (h1 : v < 2 ^ a) : (v + c * 2 ^ a) / 2 ^ a = c := by
  rw [Int.add_mul_ediv_right _ _ (Int.ne_of_gt (p2 a)), Int.ediv_eq_zero_of_lt h0 h1]; omega
theorem over_more {v c : Int} {a b : Nat} (h0 : 0 ≤ v) (h1 : v < 2 ^ a) (hab : a ≤ b) : (v + c * 2 ^ a) / 2 ^ b = c / 2 ^ (b - a) := by
  have e : b = a + (b - a) := by omega
  rw [e, ← div_pow, over_low h0 h1]
  congr 2
  omega
theorem bdU {v c : Int} {a b : Nat} (h0 : 0 ≤ v) (h1 : v < 2 ^ a) (hc : 0 ≤ c) (hab : a ≤ b) (hf : c / 2 ^ (b - a) = 0) : 0 ≤ v + c * 2 ^ a ∧ v + c * 2 ^ a < 2 ^ b := by
  have hz : 0 ≤ c * 2 ^ a := Int.mul_nonneg hc (Int.le_of_lt (p2 a))
  have hq := over_more (c := c) h0 h1 hab
  rw [hf] at hq
  refine ⟨by omega, ?_⟩
  rcases Int.lt_or_le (v + c * 2 ^ a) (2 ^ b) with g | g
  · exact g
  · have := (Int.le_ediv_iff_mul_le (p2 b)).2 (show 1 * 2 ^ b ≤ v + c * 2 ^ a by omega)
    omega
theorem bdS {v c : Int} {a b : Nat} (h0 : 0 ≤ v) (h1 : v < 2 ^ a) (hab : a ≤ b) (hf : c / 2 ^ (b - a) = 0 ∨ c / 2 ^ (b - a) = -1) : -2 ^ b ≤ v + c * 2 ^ a ∧ v + c * 2 ^ a < 2 ^ b ∧ -2 ^ b ≤ c * 2 ^ a := by
  have hq := over_more (c := c) h0 h1 hab
  have hb := p2 b
  have e1 := Int.emod_add_mul_ediv (v + c * 2 ^ a) (2 ^ b)
  have e2 := Int.emod_nonneg (v + c * 2 ^ a) (Int.ne_of_gt hb)
  have e3 := Int.emod_lt_of_pos (v + c * 2 ^ a) hb
  have hq2 := over_more (v := 0) (c := c) (Int.le_refl 0) (p2 a) hab
  rw [Int.zero_add] at hq2
  have f1 := Int.emod_add_mul_ediv (c * 2 ^ a) (2 ^ b)
  have f2 := Int.emod_nonneg (c * 2 ^ a) (Int.ne_of_gt hb)
  rcases hf with hf | hf
  · rw [hq, hf] at e1
    rw [hq2, hf] at f1
    omega
  · rw [hq, hf] at e1
    rw [hq2, hf] at f1
    omega
end Go.Proofs.YtebgmfjgapmpfabDoor

/- leb.ReadUint and leb.ReadInt. -/
namespace Go.Proofs.YtebgmfjgapmpfabDoor
open Go.RowKit
set_option linter.unusedVariables false

set_option maxHeartbeats 800000 in
/-- No varint: the error that length tells. -/
theorem ru_fail (sl a_ n_ : Value) (e : Int) (w : World) (he : e = 1 ∨ e = 2 ∨ e = 3)
    (h : Calls Tryd.prog 116 #[sl, a_, n_] w fun x w' => x = .returned (.tuple #[.int .i64 0, .int .i64 e]) ∧ w = w') :
    Calls Tryd.prog 101 #[sl, a_, n_] w fun x w' => x = .returned (.tuple #[.int .u64 0, .int .i64 0, .int .i64 e]) ∧ w = w' := by
  have H := Lib.hid h
  clear h
  have e1 : (e != 0) = true := by simp; omega
  have e2 : (e == 0) = false := by simp; omega
  go_enter Tryd.func101, Tryd.ntmps101
  go_wp2_with (go_at_call 116; go_must (refine (Calls.mono H.out ?_); rintro x w' ⟨rfl, rfl⟩))
  go_ret3
  exact ⟨rfl, rfl⟩
set_option maxHeartbeats 800000 in
theorem ri_fail (sl a_ n_ : Value) (e : Int) (w : World) (he : e = 1 ∨ e = 2 ∨ e = 3)
    (h : Calls Tryd.prog 116 #[sl, a_, n_] w fun x w' => x = .returned (.tuple #[.int .i64 0, .int .i64 e]) ∧ w = w') :
    Calls Tryd.prog 115 #[sl, a_, n_] w fun x w' => x = .returned (.tuple #[.int .i64 0, .int .i64 0, .int .i64 e]) ∧ w = w' := by
  have H := Lib.hid h
  clear h
  have e1 : (e != 0) = true := by simp; omega
  have e2 : (e == 0) = false := by simp; omega
  go_enter Tryd.func115, Tryd.ntmps115
  go_wp2_with (go_at_call 116; go_must (refine (Calls.mono H.out ?_); rintro x w' ⟨rfl, rfl⟩))
  go_ret3
  exact ⟨rfl, rfl⟩

theorem rcells {r : List Int} {k p : Nat} : cells ((r.drop k).take p) = ((cells r).drop k).take p := by simp [cells, List.map_drop, List.map_take]
theorem Lies.part {w : World} {B b off : Nat} {r : List Int} (h : Lies w B (some ⟨b, off, none⟩) (cells r)) (k p : Nat) : Lies w B (some ⟨b, off + k, none⟩) (cells ((r.drop k).take p)) := by
  rw [rcells]
  have g := (h.add k).take p
  have e : Option.map (fun x : Addr => x.add k) (some ⟨b, off, none⟩) = some ⟨b, off + k, none⟩ := by
    unfold Addr.add
    by_cases hk : k = 0 <;> simp [hk]
  rw [e] at g
  exact g

theorem wrapU {z : Int} (h0 : 0 ≤ z) (h1 : z < 18446744073709551616) : IntKind.u64.wrap z = z := by simp only [IntKind.wrap, IntKind.bits, IntKind.signed]; simp; omega
theorem wrapI {z : Int} (h0 : -9223372036854775808 ≤ z) (h1 : z < 9223372036854775808) : IntKind.i64.wrap z = z := by rw [IntKind.wrap_i64]; omega

/-- The numbers of a varint: p bytes that go on and the last one, c. -/
def numU (l : List Int) (c : Int) : Int := low l + c * 2 ^ (7 * l.length)
def numS (l : List Int) (c : Int) : Int := low l + sg c * 2 ^ (7 * l.length)

set_option maxHeartbeats 1600000 in
theorem ru_ok (r : List Int) (A : Option Addr) (cap B : Nat) (k n p : Nat) (c : Int) (w : World)
    (hl : Lies w B A (cells r)) (hb : ∀ c ∈ r, 0 ≤ c ∧ c ≤ 255) (hc : r.length ≤ cap) (hm : cap ≤ maxLen)
    (hk : k ≤ r.length) (n1 : 1 ≤ n) (n2 : n ≤ 64) (hp : Stop ((n + 6) / 7) (r.drop k) p) (hpM : p < (n + 6) / 7) (hpc : (r.drop k)[p]? = some c) (hf : c / 2 ^ (n - 7 * p) = 0) :
    Calls Tryd.prog 101 #[.slice A r.length cap, .int .i64 k, .int .i64 n] w fun x w' => x = .returned (.tuple #[.int .u64 (numU ((r.drop k).take p) c), .int .i64 ((k : Int) + (p + 1)), .int .i64 0]) ∧ w = w' := by
  have CL := Lib.hid (length_right r A cap B k n p w hl hb hc hm hk n1 n2 hp)
  unfold maxLen at hm
  have hrp : k + p < r.length := by
    have := (List.getElem?_eq_some_iff.1 hpc).1
    rw [List.length_drop] at this; omega
  have hlt : ((r.drop k).take p).length = p := by rw [List.length_take, List.length_drop]; omega
  have hN : lenN ((n + 6) / 7) (r.length - k) p = (p : Int) + 1 := by unfold lenN; rw [if_neg (by omega), if_neg (by omega)]
  have hE : lenE ((n + 6) / 7) (r.length - k) p = 0 := by unfold lenE; rw [if_neg (by omega), if_neg (by omega)]
  rw [hN, hE] at CL
  obtain ⟨b, off, rfl, hbB, hcell⟩ := hl.byte (i := k + p) (c := c) (by rw [← hpc, List.getElem?_drop])
  have hpart := hl.part k p
  obtain ⟨c0, c1⟩ := hb c (List.mem_of_mem_drop (List.mem_of_getElem? hpc))
  have c2 := hp.off c hpM hpc
  have CW := Lib.hid (lower_any _ _ (cap - k) B w hpart (by omega) (fun d hd => hb d (List.mem_of_mem_drop (List.mem_of_mem_take hd))))
  have hbd := low_bd ((r.drop k).take p)
  have hnum : numU ((r.drop k).take p) c = low ((r.drop k).take p) + c * 2 ^ (7 * p) := by unfold numU; rw [hlt]
  rw [hnum]
  rw [hlt] at hbd CW
  obtain ⟨v, hv⟩ : ∃ v, v = low ((r.drop k).take p) := ⟨_, rfl⟩
  rw [← hv] at CW hbd ⊢
  obtain ⟨v0, v1⟩ := hbd
  have p9 : p ≤ 9 := by omega
  have pn : 7 * p < n := by omega
  have e56 := mono2 (a := 7 * p) (b := 63) (by omega)
  have e63 : (2 : Int) ^ 63 = 9223372036854775808 := rfl
  have hbu := bdU v0 v1 c0 (b := n) (by omega) hf
  have e64 := mono2 (a := n) (b := 64) n2
  have e18 : (2 : Int) ^ 64 = 18446744073709551616 := rfl
  have hz0 : 0 ≤ c * 2 ^ (7 * p) := Int.mul_nonneg c0 (Int.le_of_lt (p2 _))
  have hs1 : Op.shift .shr .u8 c .i64 ((n : Int) - 7 * p) = pure (.int .u8 0) := by rw [show (n : Int) - 7 * p = ((n - 7 * p : Nat) : Int) by omega, shr8 _ _ c0 c2, hf]
  have hs2 : Op.shift .shl .u64 c .i64 (7 * (p : Int)) = pure (.int .u64 (c * 2 ^ (7 * p))) := by rw [show 7 * (p : Int) = ((7 * p : Nat) : Int) by omega, shl64u _ _ (by omega) hz0 (by omega)]
  have hor := or_u64 v c (7 * p) (by omega) v0 v1 c0 (by omega)
  have hw : IntKind.u64.wrap (c * 2 ^ (7 * p)) = c * 2 ^ (7 * p) := wrapU hz0 (by omega)
  obtain ⟨z, hz⟩ : ∃ z, z = c * 2 ^ (7 * p) := ⟨_, rfl⟩
  have hw2 : IntKind.u64.wrap (c * 2 ^ (7 * p)) = z := by rw [hz]; exact hw
  rw [← hz] at hor hs2 ⊢
  clear hl hb hp hpart hN hE hv hpc hlt e56 e63 v1 hpM hnum hbu e64 e18 hf hw hz0 hz
  go_enter Tryd.func101, Tryd.ntmps101
  go_wp2_with (first
    | (go_at_call 116; go_must (refine (Calls.mono CL.out ?_); rintro x w' ⟨rfl, rfl⟩))
    | (go_at_call 117; go_must (refine (Calls.mono CW.out ?_); rintro x w' ⟨rfl, rfl⟩)))
  go_ret3
  exact ⟨rfl, rfl⟩
set_option maxHeartbeats 1600000 in
theorem ru_far (r : List Int) (A : Option Addr) (cap B : Nat) (k n p : Nat) (c : Int) (w : World)
    (hl : Lies w B A (cells r)) (hb : ∀ c ∈ r, 0 ≤ c ∧ c ≤ 255) (hc : r.length ≤ cap) (hm : cap ≤ maxLen)
    (hk : k ≤ r.length) (n1 : 1 ≤ n) (n2 : n ≤ 64) (hp : Stop ((n + 6) / 7) (r.drop k) p) (hpM : p < (n + 6) / 7) (hpc : (r.drop k)[p]? = some c) (hf : ¬ c / 2 ^ (n - 7 * p) = 0) :
    Calls Tryd.prog 101 #[.slice A r.length cap, .int .i64 k, .int .i64 n] w fun x w' => x = .returned (.tuple #[.int .u64 0, .int .i64 0, .int .i64 3]) ∧ w = w' := by
  have CL := Lib.hid (length_right r A cap B k n p w hl hb hc hm hk n1 n2 hp)
  unfold maxLen at hm
  have hrp : k + p < r.length := by
    have := (List.getElem?_eq_some_iff.1 hpc).1
    rw [List.length_drop] at this; omega
  have hlt : ((r.drop k).take p).length = p := by rw [List.length_take, List.length_drop]; omega
  have hN : lenN ((n + 6) / 7) (r.length - k) p = (p : Int) + 1 := by unfold lenN; rw [if_neg (by omega), if_neg (by omega)]
  have hE : lenE ((n + 6) / 7) (r.length - k) p = 0 := by unfold lenE; rw [if_neg (by omega), if_neg (by omega)]
  rw [hN, hE] at CL
  obtain ⟨b, off, rfl, hbB, hcell⟩ := hl.byte (i := k + p) (c := c) (by rw [← hpc, List.getElem?_drop])
  have hpart := hl.part k p
  obtain ⟨c0, c1⟩ := hb c (List.mem_of_mem_drop (List.mem_of_getElem? hpc))
  have c2 := hp.off c hpM hpc
  have CW := Lib.hid (lower_any _ _ (cap - k) B w hpart (by omega) (fun d hd => hb d (List.mem_of_mem_drop (List.mem_of_mem_take hd))))
  have hbd := low_bd ((r.drop k).take p)
  rw [hlt] at hbd CW
  obtain ⟨v, hv⟩ : ∃ v, v = low ((r.drop k).take p) := ⟨_, rfl⟩
  rw [← hv] at CW hbd
  obtain ⟨v0, v1⟩ := hbd
  have p9 : p ≤ 9 := by omega
  have pn : 7 * p < n := by omega
  have e56 := mono2 (a := 7 * p) (b := 63) (by omega)
  have e63 : (2 : Int) ^ 63 = 9223372036854775808 := rfl
  have hs1 : Op.shift .shr .u8 c .i64 ((n : Int) - 7 * p) = pure (.int .u8 (c / 2 ^ (n - 7 * p))) := by rw [show (n : Int) - 7 * p = ((n - 7 * p : Nat) : Int) by omega, shr8 _ _ c0 c2]
  generalize c / 2 ^ (n - 7 * p) = z at *
  have hz : (z != 0) = true := by simpa using hf
  have hz2 : (z == 0) = false := by simpa using hf
  clear hl hb hp hpart hN hE hv hpc hlt e56 e63 v1 hpM hf
  go_enter Tryd.func101, Tryd.ntmps101
  go_wp2_with (first
    | (go_at_call 116; go_must (refine (Calls.mono CL.out ?_); rintro x w' ⟨rfl, rfl⟩))
    | (go_at_call 117; go_must (refine (Calls.mono CW.out ?_); rintro x w' ⟨rfl, rfl⟩)))
  go_ret3
  exact ⟨rfl, rfl⟩
set_option maxHeartbeats 1600000 in
theorem ri_ok (r : List Int) (A : Option Addr) (cap B : Nat) (k n p : Nat) (c : Int) (w : World)
    (hl : Lies w B A (cells r)) (hb : ∀ c ∈ r, 0 ≤ c ∧ c ≤ 255) (hc : r.length ≤ cap) (hm : cap ≤ maxLen)
    (hk : k ≤ r.length) (n1 : 1 ≤ n) (n2 : n ≤ 64) (hp : Stop ((n + 6) / 7) (r.drop k) p) (hpM : p < (n + 6) / 7) (hpc : (r.drop k)[p]? = some c) (hf : sg c / 2 ^ (n - 7 * p - 1) = 0 ∨ sg c / 2 ^ (n - 7 * p - 1) = -1) :
    Calls Tryd.prog 115 #[.slice A r.length cap, .int .i64 k, .int .i64 n] w fun x w' => x = .returned (.tuple #[.int .i64 (numS ((r.drop k).take p) c), .int .i64 ((k : Int) + (p + 1)), .int .i64 0]) ∧ w = w' := by
  have CL := Lib.hid (length_right r A cap B k n p w hl hb hc hm hk n1 n2 hp)
  unfold maxLen at hm
  have hrp : k + p < r.length := by
    have := (List.getElem?_eq_some_iff.1 hpc).1
    rw [List.length_drop] at this; omega
  have hlt : ((r.drop k).take p).length = p := by rw [List.length_take, List.length_drop]; omega
  have hN : lenN ((n + 6) / 7) (r.length - k) p = (p : Int) + 1 := by unfold lenN; rw [if_neg (by omega), if_neg (by omega)]
  have hE : lenE ((n + 6) / 7) (r.length - k) p = 0 := by unfold lenE; rw [if_neg (by omega), if_neg (by omega)]
  rw [hN, hE] at CL
  obtain ⟨b, off, rfl, hbB, hcell⟩ := hl.byte (i := k + p) (c := c) (by rw [← hpc, List.getElem?_drop])
  have hpart := hl.part k p
  obtain ⟨c0, c1⟩ := hb c (List.mem_of_mem_drop (List.mem_of_getElem? hpc))
  have c2 := hp.off c hpM hpc
  have CW := Lib.hid (lower_any _ _ (cap - k) B w hpart (by omega) (fun d hd => hb d (List.mem_of_mem_drop (List.mem_of_mem_take hd))))
  have hbd := low_bd ((r.drop k).take p)
  have hnum : numS ((r.drop k).take p) c = low ((r.drop k).take p) + sg c * 2 ^ (7 * p) := by unfold numS; rw [hlt]
  rw [hnum]
  rw [hlt] at hbd CW
  obtain ⟨v, hv⟩ : ∃ v, v = low ((r.drop k).take p) := ⟨_, rfl⟩
  rw [← hv] at CW hbd ⊢
  obtain ⟨v0, v1⟩ := hbd
  have p9 : p ≤ 9 := by omega
  have pn : 7 * p < n := by omega
  have e56 := mono2 (a := 7 * p) (b := 63) (by omega)
  have e63 : (2 : Int) ^ 63 = 9223372036854775808 := rfl
  have hbu := bdS (c := sg c) v0 v1 (b := n - 1) (by omega) (by rw [show n - 1 - 7 * p = n - 7 * p - 1 by omega]; exact hf)
  obtain ⟨u0, u1, u2⟩ := hbu
  have e64 := mono2 (a := n - 1) (b := 63) (by omega)
  have hs1 : Op.shift .shr .i64 (sg c) .i64 ((n : Int) - 7 * p - 1) = pure (.int .i64 (sg c / 2 ^ (n - 7 * p - 1))) := by rw [show (n : Int) - 7 * p - 1 = ((n - 7 * p - 1 : Nat) : Int) by omega, shr64 _ _ (by omega)]
  have hs2 : Op.shift .shl .i64 (sg c) .i64 (7 * (p : Int)) = pure (.int .i64 (sg c * 2 ^ (7 * p))) := by rw [show 7 * (p : Int) = ((7 * p : Nat) : Int) by omega, shl64i _ _ (by omega) (by omega) (by omega)]
  have hor := or_i64 v (sg c) (7 * p) (by omega) v0 v1 (by omega) (by omega)
  have v2 : v ≤ 9223372036854775807 := by omega
  have hw : IntKind.i64.wrap (sg c * 2 ^ (7 * p)) = sg c * 2 ^ (7 * p) := wrapI (by omega) (by omega)
  obtain ⟨z, hz⟩ : ∃ z, z = sg c * 2 ^ (7 * p) := ⟨_, rfl⟩
  have hw2 : wrap64 (sg c * 2 ^ (7 * p)) = z := by rw [hz, ← IntWalk.i64_left]; exact hw
  rw [← hz] at hor hs2 ⊢
  obtain ⟨y, hy⟩ : ∃ y, sg c / 2 ^ (n - 7 * p - 1) = y := ⟨_, rfl⟩
  have hy2 : sg c / 2 ^ ((n : Int) - 7 * p - 1).toNat = y := by rw [show ((n : Int) - 7 * p - 1).toNat = n - 7 * p - 1 by omega]; exact hy
  rw [hy] at hf hs1
  have CS := Lib.hid (fun W => signed_any c W c0 c2)
  generalize sg c = s at *
  clear hl hb hp hpart hN hE hv hpc hlt e56 e63 v1 hpM hnum u0 u1 u2 e64 hw hz
  rcases hf with rfl | rfl
  · go_enter Tryd.func115, Tryd.ntmps115
    go_wp2_with (first
      | (go_at_call 116; go_must (refine (Calls.mono CL.out ?_); rintro x w' ⟨rfl, rfl⟩))
      | (go_at_call 121; go_must (refine (Calls.mono (CS.out _) ?_); rintro x w' ⟨rfl, rfl⟩))
      | (go_at_call 117; go_must (refine (Calls.mono CW.out ?_); rintro x w' ⟨rfl, rfl⟩)))
    go_ret3
    exact ⟨rfl, rfl⟩
  · go_enter Tryd.func115, Tryd.ntmps115
    go_wp2_with (first
      | (go_at_call 116; go_must (refine (Calls.mono CL.out ?_); rintro x w' ⟨rfl, rfl⟩))
      | (go_at_call 121; go_must (refine (Calls.mono (CS.out _) ?_); rintro x w' ⟨rfl, rfl⟩))
      | (go_at_call 117; go_must (refine (Calls.mono CW.out ?_); rintro x w' ⟨rfl, rfl⟩)))
    go_ret3
    exact ⟨rfl, rfl⟩
set_option maxHeartbeats 1600000 in
theorem ri_far (r : List Int) (A : Option Addr) (cap B : Nat) (k n p : Nat) (c : Int) (w : World)
    (hl : Lies w B A (cells r)) (hb : ∀ c ∈ r, 0 ≤ c ∧ c ≤ 255) (hc : r.length ≤ cap) (hm : cap ≤ maxLen)
    (hk : k ≤ r.length) (n1 : 1 ≤ n) (n2 : n ≤ 64) (hp : Stop ((n + 6) / 7) (r.drop k) p) (hpM : p < (n + 6) / 7) (hpc : (r.drop k)[p]? = some c) (hf : ¬ (sg c / 2 ^ (n - 7 * p - 1) = 0 ∨ sg c / 2 ^ (n - 7 * p - 1) = -1)) :
    Calls Tryd.prog 115 #[.slice A r.length cap, .int .i64 k, .int .i64 n] w fun x w' => x = .returned (.tuple #[.int .i64 0, .int .i64 0, .int .i64 3]) ∧ w = w' := by
  have CL := Lib.hid (length_right r A cap B k n p w hl hb hc hm hk n1 n2 hp)
  unfold maxLen at hm
  have hrp : k + p < r.length := by
    have := (List.getElem?_eq_some_iff.1 hpc).1
    rw [List.length_drop] at this; omega
  have hlt : ((r.drop k).take p).length = p := by rw [List.length_take, List.length_drop]; omega
  have hN : lenN ((n + 6) / 7) (r.length - k) p = (p : Int) + 1 := by unfold lenN; rw [if_neg (by omega), if_neg (by omega)]
  have hE : lenE ((n + 6) / 7) (r.length - k) p = 0 := by unfold lenE; rw [if_neg (by omega), if_neg (by omega)]
  rw [hN, hE] at CL
  obtain ⟨b, off, rfl, hbB, hcell⟩ := hl.byte (i := k + p) (c := c) (by rw [← hpc, List.getElem?_drop])
  have hpart := hl.part k p
  obtain ⟨c0, c1⟩ := hb c (List.mem_of_mem_drop (List.mem_of_getElem? hpc))
  have c2 := hp.off c hpM hpc
  have CW := Lib.hid (lower_any _ _ (cap - k) B w hpart (by omega) (fun d hd => hb d (List.mem_of_mem_drop (List.mem_of_mem_take hd))))
  have hbd := low_bd ((r.drop k).take p)
  rw [hlt] at hbd CW
  obtain ⟨v, hv⟩ : ∃ v, v = low ((r.drop k).take p) := ⟨_, rfl⟩
  rw [← hv] at CW hbd
  obtain ⟨v0, v1⟩ := hbd
  have p9 : p ≤ 9 := by omega
  have pn : 7 * p < n := by omega
  have e56 := mono2 (a := 7 * p) (b := 63) (by omega)
  have e63 : (2 : Int) ^ 63 = 9223372036854775808 := rfl
  have hs1 : Op.shift .shr .i64 (sg c) .i64 ((n : Int) - 7 * p - 1) = pure (.int .i64 (sg c / 2 ^ (n - 7 * p - 1))) := by rw [show (n : Int) - 7 * p - 1 = ((n - 7 * p - 1 : Nat) : Int) by omega, shr64 _ _ (by omega)]
  obtain ⟨z, hy4⟩ : ∃ z, sg c / 2 ^ (n - 7 * p - 1) = z := ⟨_, rfl⟩
  have hy3 : sg c / 2 ^ ((n : Int) - 7 * p - 1).toNat = z := by rw [show ((n : Int) - 7 * p - 1).toNat = n - 7 * p - 1 by omega]; exact hy4
  rw [hy4] at hf hs1
  have hz : (z != 0) = true := by simp; omega
  have hz2 : (z == 0) = false := by simp; omega
  have hy : (z != -1) = true := by simp; omega
  have hy2 : (z == -1) = false := by simp; omega
  have CS := Lib.hid (fun W => signed_any c W c0 c2)
  generalize sg c = s at *
  clear hl hb hp hpart hN hE hv hpc hlt e56 e63 v1 hpM hf
  go_enter Tryd.func115, Tryd.ntmps115
  go_wp2_with (first
    | (go_at_call 116; go_must (refine (Calls.mono CL.out ?_); rintro x w' ⟨rfl, rfl⟩))
    | (go_at_call 121; go_must (refine (Calls.mono (CS.out _) ?_); rintro x w' ⟨rfl, rfl⟩))
    | (go_at_call 117; go_must (refine (Calls.mono CW.out ?_); rintro x w' ⟨rfl, rfl⟩)))
  go_ret3
  exact ⟨rfl, rfl⟩
end Go.Proofs.YtebgmfjgapmpfabDoor

/- The contracts of package abort: Now, Unless, stopOf, call, Out. -/
namespace Go.Proofs.YtebgmfjgapmpfabDoor
set_option linter.unusedVariables false
open Go.RowKit

/-- The panic with which a Stop aborts. -/
def stopP (c a : Int) : List PanicEntry := [{ v := .iface 48 (.agg #[.int .i64 c, .int .i64 a]), recovered := false }]

/-- How a step ends: with code 0 it returns, else it panics with its Stop. -/
def Ended (c a : Int) (e : Ending) : Prop := (c = 0 ∧ a = 0 ∧ e = .returned (.tuple #[])) ∨ (¬ c = 0 ∧ e = .panicked (stopP c a))

theorem now_any (c a : Int) (w : World) :
    Calls Tryd.prog 77 #[.int .i64 c, .int .i64 a] w fun e w' => e = .panicked (stopP c a) ∧ w' = w := by
  go_enter Tryd.func77, Tryd.ntmps77
  go_wp2
  exact ⟨rfl, rfl, rfl⟩

theorem unless_true (c a : Int) (w : World) :
    Calls Tryd.prog 55 #[.bool true, .int .i64 c, .int .i64 a] w fun e w' => e = .returned (.tuple #[]) ∧ w' = w := by
  go_enter Tryd.func55, Tryd.ntmps55
  go_wp2_with fail
  go_end0
  exact ⟨rfl, rfl⟩

theorem unless_false (c a : Int) (w : World) :
    Calls Tryd.prog 55 #[.bool false, .int .i64 c, .int .i64 a] w fun e w' => e = .panicked (stopP c a) ∧ w' = w := by
  go_enter Tryd.func55, Tryd.ntmps55
  go_wp2_with (go_at_call 77; refine (now_any _ _ _).mono ?_; rintro e w' ⟨rfl, rfl⟩)
  exact ⟨rfl, rfl, rfl⟩

theorem stopOf_any (c a : Int) (w : World) :
    Calls Tryd.prog 49 #[.iface 48 (.agg #[.int .i64 c, .int .i64 a])] w fun e w' => e = .returned (.agg #[.int .i64 c, .int .i64 a]) ∧ Below w.heap.size w w' := by
  have hta : ∀ w : World, (Instr.typeAssert (Value.iface 48 (Value.agg #[Value.int IntKind.i64 c, Value.int IntKind.i64 a])) 20 48 true).run Tryd.prog w = .ok (.tuple #[.agg #[Value.int IntKind.i64 c, Value.int IntKind.i64 a], .bool true]) w := fun _ => by kernel_rfl
  go_enter Tryd.func49, Tryd.ntmps49
  go_wp2
  exact bodyPost_ret (v := .agg #[.int .i64 c, .int .i64 a]) (by simp [results, Tryd.results49, go_sem]) rfl ⟨rfl, ((Below.refl _ _).alloc (Nat.le_refl _) _).alloc (by simp) _⟩

theorem call_any (g : FuncId) (cap : Array Value) (w : World) (R : Ending → World → Prop) (hcf : ∀ w : World, (callFunc g cap).run Tryd.prog w = .ok (.enter g cap) w) (h : Calls Tryd.prog g cap w R)
    (hR : ∀ v w', R (.returned v) w' → R (.returned (.tuple #[])) w') (hO : ∀ w', R .outgrown w' → False) :
    Calls Tryd.prog 50 #[.func (.func g) #[] cap] w R := by
  have hnil : ∀ w : World, (binOp BinOp.neq 1 (.func (.func g) #[] cap) .nilFunc).run Tryd.prog w = .ok (.bool true) w := fun _ => by kernel_rfl
  go_enter Tryd.func50, Tryd.ntmps50
  go_wp2_with fail
  refine h.mono ?_
  intro e w' hr
  cases e with
  | returned v =>
    have hr2 := hR v w' hr
    clear hr hR h
    go_wp2_with fail
    exact bodyPost_ret (v := .tuple #[]) (by simp [results, Tryd.results50, go_sem]) rfl hr2
  | panicked ch => exact ⟨rfl, hr⟩
  | outgrown => exact (hO _ hr).elim

theorem catch_panicking (b : Nat) (c a x y : Int) (older : List PanicEntry) (w : World) (hb : Whole w b 48 #[.int .i64 x, .int .i64 y]) :
    CallsD Tryd.prog 48 #[.pointer (some ⟨b, 0, none⟩)] (.panicking ({ v := .iface 48 (.agg #[.int .i64 c, .int .i64 a]), recovered := false } :: older)) w fun e u' w' =>
      e = .returned (.tuple #[]) ∧ u' = .panicking ({ v := .iface 48 (.agg #[.int .i64 c, .int .i64 a]), recovered := true } :: older) ∧ Whole w' b 48 #[.int .i64 c, .int .i64 a] ∧ w.grownBy w' (some b) := by
  refine callsD_of_wpS Tryd.func48 rfl fun c₀ cs hu => ?_
  apply wpS_seq
  apply wpS_region
  simp [wpOpsS, go_sem, recoverD, hu, Tryd.ntmps48, Exit.thenS]
  apply wpS_seq
  apply wpS_region
  simp [wpOpsS, go_sem, Exit.thenS]
  refine wpS_cond (t := true) (by simp [Act.eval, Array.replicate]) ?_
  simp only [if_true]
  apply wpS_region
  simp [wpOpsS, go_sem]
  refine (stopOf_any c a w).mono ?_
  rintro e w1 ⟨rfl, hb1⟩
  have hw1 := hb.below hb1
  have h0 := hw1.cell 0
  have h1 := hw1.cell 1
  have f0 := hw1.frozen 0
  have f1 := hw1.frozen 1
  simp [go_sem, h0, h1, f0, f1]
  obtain ⟨hW, hG⟩ := two_put (u := .int .i64 c) (v := .int .i64 a) hb hb1
  clear h0 h1 f0 f1 hw1 hb1 hb
  refine ⟨rfl, .panicking ({ v := .iface 48 (.agg #[.int .i64 c, .int .i64 a]), recovered := true } :: older), rfl, .tuple #[], ?_, rfl, rfl, hW, hG⟩
  simp [results, Tryd.results48]

theorem catch_idle (p : Addr) (w : World) :
    CallsD Tryd.prog 48 #[.pointer (some p)] .returning w fun e u' w' => e = .returned (.tuple #[]) ∧ u' = .returning ∧ w' = w := by
  refine callsD_of_wpS Tryd.func48 rfl fun c₀ cs hu => ?_
  apply wpS_seq
  apply wpS_region
  simp [wpOpsS, go_sem, recoverD, hu, Tryd.ntmps48, Exit.thenS]
  apply wpS_seq
  apply wpS_region
  simp [wpOpsS, go_sem, Exit.thenS]
  refine wpS_cond (t := false) (by simp [Act.eval, Array.replicate]) ?_
  simp only [Bool.false_eq_true, if_false]
  refine wpS_of_wp (wp_skip ?_)
  cases c₀
  simp_all [bodyPostS, results, Tryd.results48]

set_option maxHeartbeats 400000 in
/-- Out of a function that ends by returning, or with a Stop. -/
theorem out_any (g : FuncId) (cap : Array Value) (c a : Int) (w : World) (S : World → Prop) (hcf : ∀ w : World, (callFunc g cap).run Tryd.prog w = .ok (.enter g cap) w)
    (h : Calls Tryd.prog g cap (w.alloc (.cells #[.int .i64 0, .int .i64 0] 48)) (fun e w' => Ended c a e ∧ S w'))
    (hS : ∀ w', S w' → Whole w' w.heap.size 48 #[.int .i64 0, .int .i64 0]) :
    Calls Tryd.prog 28 #[.func (.func g) #[] cap] w fun e w' => e = .returned (.agg #[.int .i64 c, .int .i64 a]) ∧ ∃ w1, S w1 ∧ w1.grownBy w' (some w.heap.size) := by
  have hmf : ∀ (fn : Fn) (first cap : Array Value) (w : World), (Instr.makeFunc fn first cap).run Tryd.prog w = .ok (.func fn first cap) w := fun _ _ _ _ => rfl
  go_enter_defers Tryd.func28, Tryd.ntmps28
  go_wp2_with (go_at_call 50; refine (call_any g cap _ _ hcf h ?_ ?_).mono ?_)
  · rintro v w' ⟨he, hs⟩
    rcases he with ⟨h0, h1, _⟩ | ⟨_, h1⟩
    · exact ⟨.inl ⟨h0, h1, rfl⟩, hs⟩
    · cases h1
  · rintro w' ⟨he, _⟩
    rcases he with ⟨_, _, h1⟩ | ⟨_, h1⟩ <;> cases h1
  · rintro e w1 ⟨he, hs⟩
    have hw1 := hS _ hs
    have h0 := hw1.cell 0
    have h1 := hw1.cell 1
    have f0 := hw1.frozen 0
    have f1 := hw1.frozen 1
    clear h hS
    rcases he with ⟨rfl, rfl, rfl⟩ | ⟨hc, rfl⟩
    · simp at h0 h1
      go_wp2_with fail
      refine leaves_cons (f := 48) (args := #[.pointer (some ⟨w.heap.size, 0, none⟩)]) (by simp) (by simp [go_sem]) ?_
      refine (catch_idle ⟨w.heap.size, 0, none⟩ _).mono ?_
      rintro e u' w2 ⟨rfl, rfl, rfl⟩
      simp [Leaves, settle, results, Tryd.results28, go_sem, h0, h1]
      have g1 : w1.grownBy (w1.setCell ⟨w.heap.size, 0, none⟩ (.int .i64 0)) (some w.heap.size) := gb_put (p := ⟨w.heap.size, 0, none⟩) (gb_refl w1 _) (.inl rfl) _
      exact ⟨w1, hs, gb_put (p := ⟨w.heap.size, 1, none⟩) g1 (.inl rfl) _⟩
    · have H := Lib.hid hc
      clear hc
      simp at h0 h1
      go_wp2_with fail
      refine leaves_cons (f := 48) (args := #[.pointer (some ⟨w.heap.size, 0, none⟩)]) (by simp) (by simp [go_sem]) ?_
      refine (catch_panicking w.heap.size c a 0 0 [] _ hw1).mono ?_
      rintro e u' w2 ⟨rfl, rfl, hw2, hg2⟩
      have k0 := hw2.cell 0
      have k1 := hw2.cell 1
      simp at k0 k1
      simp [Leaves, settle, results, Tryd.results28, go_sem, k0, k1]
      exact ⟨w1, hs, hg2⟩

end Go.Proofs.YtebgmfjgapmpfabDoor

/- A scanner: what it holds; what a reading is. Left, Done. -/
namespace Go.Proofs.YtebgmfjgapmpfabDoor
set_option maxRecDepth 100000
open Go.RowKit
set_option linter.unusedVariables false

/-- What is read of bytes from a place on: a value and the next place, or an error and its place. -/
inductive Res (α : Type) where
  | ok (v : α) (k : Nat)
  | err (c a : Int)
def Res.bind {α β : Type} (r : Res α) (f : α → Nat → Res β) : Res β := match r with
  | .ok v k => f v k
  | .err c a => .err c a

/-- A scanner at block p: it reads the bytes l, k of them are read. -/
def Sc (w : World) (p : Nat) (l : List UInt8) (k : Nat) : Prop :=
  ∃ A cap, Whole w p 71 #[.slice A l.length cap, .int .i64 k] ∧ Lies w p A (cells (nums l)) ∧ l.length ≤ cap ∧ cap ≤ maxLen ∧ k ≤ l.length
theorem Sc.grown {w w' : World} {p : Nat} {l : List UInt8} {k : Nat} {row : Option Nat} (h : Sc w p l k) (hg : w.grownBy w' row) (hr : some p ≠ row) (hr2 : ∀ g, row = some g → p ≤ g) : Sc w' p l k := by
  obtain ⟨A, cap, h1, h2, h3⟩ := h
  exact ⟨A, cap, h1.grown hg hr, h2.grown hg (Nat.le_of_lt h1.lt) hr2, h3⟩
theorem Sc.below {w w' : World} {p : Nat} {l : List UInt8} {k : Nat} (h : Sc w p l k) (hb : Below w.heap.size w w') : Sc w' p l k :=
  h.grown (gb_of_below none hb) (by simp) (fun g e => by cases e)
theorem Sc.drewN {w : World} {p : Nat} {l : List UInt8} {k : Nat} (h : Sc w p l k) (n : Nat) : Sc (w.drewN n) p l k := h
theorem Sc.alloc {w : World} {p : Nat} {l : List UInt8} {k : Nat} (h : Sc w p l k) (o : Obj) : Sc (w.alloc o) p l k := h.below ((Below.refl _ _).alloc (Nat.le_refl _) _)
theorem Sc.lt {w : World} {p : Nat} {l : List UInt8} {k : Nat} (h : Sc w p l k) : p < w.heap.size := by
  obtain ⟨A, cap, h1, _⟩ := h
  exact h1.lt
theorem Sc.le {w : World} {p : Nat} {l : List UInt8} {k : Nat} (h : Sc w p l k) : k ≤ l.length ∧ (l.length : Int) ≤ 9223372036854775807 := by
  obtain ⟨A, cap, _, _, h3, h4, h5⟩ := h
  unfold maxLen at h4
  omega
theorem Sc.at {w : World} {p : Nat} {l : List UInt8} {k : Nat} (h : Sc w p l k) : w.cell? ⟨p, 1, none⟩ = some (.int .i64 k) := by
  obtain ⟨A, cap, h1, _⟩ := h
  exact h1.cell 1
theorem gb_drewN {w w1 : World} {row : Option Nat} (h : w.grownBy w1 row) (n : Nat) : w.grownBy (w1.drewN n) row := ⟨h.os, h.tape, h.output, h.size, h.block⟩
/-- What a reading leaves behind. -/
def Did {α : Type} (enc : α → Value) (p : Nat) (l : List UInt8) (w : World) (r : Res α) (e : Ending) (w' : World) : Prop := match r with
  | .ok v k => e = .returned (enc v) ∧ Sc w' p l k ∧ w.grownBy w' (some p)
  | .err c a => e = .panicked (stopP c a) ∧ w.grownBy w' (some p)

/-- The place is written. -/
theorem Sc.moved {w : World} {p : Nat} {l : List UInt8} {k : Nat} (h : Sc w p l k) (n : Nat) (v : Int) (k' : Nat) (hv : v = k') (hk : k' ≤ l.length) :
    Sc ((w.drewN n).setCell ⟨p, 1, none⟩ (.int .i64 v)) p l k' ∧ w.grownBy ((w.drewN n).setCell ⟨p, 1, none⟩ (.int .i64 v)) (some p) := by
  subst hv
  have hlt := h.lt
  obtain ⟨A, cap, h1, h2, h3, h4, _⟩ := h
  have hg : w.grownBy ((w.drewN n).setCell ⟨p, 1, none⟩ (.int .i64 k')) (some p) := gb_put (p := ⟨p, 1, none⟩) (gb_drewN (gb_refl w _) n) (.inl rfl) _
  have hw : Whole (w.drewN n) p 71 #[.slice A l.length cap, .int .i64 k] := h1
  exact ⟨⟨A, cap, by simpa using hw.put 1 (.int .i64 k'), h2.grown hg (Nat.le_of_lt hlt) (fun g e => by injection e with e; omega), h3, h4, hk⟩, hg⟩
theorem Sc.data {w : World} {p : Nat} {l : List UInt8} {k : Nat} (h : Sc w p l k) : ∃ A cap, w.cell? ⟨p, 0, none⟩ = some (.slice A l.length cap) ∧ Lies w p A (cells (nums l)) ∧ l.length ≤ cap ∧ cap ≤ maxLen := by
  obtain ⟨A, cap, h1, h2, h3, h4, _⟩ := h
  exact ⟨A, cap, h1.cell 0, h2, h3, h4⟩
theorem Sc.free {w : World} {p : Nat} {l : List UInt8} {k : Nat} (h : Sc w p l k) : w.frozen? ⟨p, 1, none⟩ = false := by
  obtain ⟨A, cap, h1, _⟩ := h
  exact h1.frozen 1
/-- abort.Unless: nothing is wrong. -/
theorem unlessT (c a : Int) (w : World) : Calls Tryd.prog 55 #[.bool true, .int .i64 c, .int .i64 a] w fun e w' => e = .returned (.tuple #[]) ∧ w = w' :=
  (unless_true c a w).mono fun _ _ h => ⟨h.1, h.2.symm⟩
theorem unlessF (c a : Int) (w : World) : Calls Tryd.prog 55 #[.bool false, .int .i64 c, .int .i64 a] w fun e w' => e = .panicked (stopP c a) ∧ w = w' :=
  (unless_false c a w).mono fun _ _ h => ⟨h.1, h.2.symm⟩

/-- A scanner's own block alone: it has n bytes, k of them are read. -/
def Hd (w : World) (p n k : Nat) : Prop := ∃ A cap, Whole w p 71 #[.slice A n cap, .int .i64 k] ∧ n ≤ cap ∧ cap ≤ maxLen ∧ k ≤ n
theorem Sc.hd {w : World} {p : Nat} {l : List UInt8} {k : Nat} (h : Sc w p l k) : Hd w p l.length k := by
  obtain ⟨A, cap, h1, _, h3, h4, h5⟩ := h
  exact ⟨A, cap, h1, h3, h4, h5⟩
theorem Hd.grown {w w' : World} {p n k : Nat} {row : Option Nat} (h : Hd w p n k) (hg : w.grownBy w' row) (hr : some p ≠ row) : Hd w' p n k := by
  obtain ⟨A, cap, h1, h2⟩ := h
  exact ⟨A, cap, h1.grown hg hr, h2⟩
theorem Hd.drewN {w : World} {p n k : Nat} (h : Hd w p n k) (m : Nat) : Hd (w.drewN m) p n k := h
theorem left_hd {w : World} {p n k : Nat} (h : Hd w p n k) :
    Calls Tryd.prog 20 #[.pointer (some ⟨p, 0, none⟩)] w fun e w' => e = .returned (.int .i64 ((n : Int) - k)) ∧ ∃ m, w' = w.drewN m := by
  obtain ⟨A, cap, h1, h2, h3, h4⟩ := h
  unfold maxLen at h3
  have c0 := h1.cell 0
  have c1 := h1.cell 1
  simp only [List.getElem?_toArray, List.getElem?_cons_zero, List.getElem?_cons_succ] at c0 c1
  clear h1
  go_enter Tryd.func20, Tryd.ntmps20
  go_wp2
  go_quiet (fail)
  go_wp2
  go_ret
  exact ⟨rfl, _, rfl⟩
theorem left_any {w : World} {p : Nat} {l : List UInt8} {k : Nat} (h : Sc w p l k) :
    Calls Tryd.prog 20 #[.pointer (some ⟨p, 0, none⟩)] w fun e w' => e = .returned (.int .i64 ((l.length : Int) - k)) ∧ ∃ m, w' = w.drewN m := left_hd h.hd
end Go.Proofs.YtebgmfjgapmpfabDoor

/- take. -/
namespace Go.Proofs.YtebgmfjgapmpfabDoor
set_option maxRecDepth 100000
open Go.RowKit
set_option linter.unusedVariables false

/-- s[k:k+n]. -/
theorem cut_run (A : Option Addr) (len cap k n : Nat) (h1 : k + n ≤ len) (h2 : len ≤ cap) :
    ∃ A', (∀ w, (Instr.slice 41 (.slice A len cap) (some (.int .i64 (k : Int))) (some (.int .i64 ((k : Int) + n))) none).run Tryd.prog w = .ok (.slice A' n (cap - k)) w) ∧
      (∀ w B (l : List Int), Lies w B A (cells l) → Lies w B A' (cells ((l.drop k).take n))) := by
  have hr : ∀ w, _ := fun w => run_slice_lh (P := Tryd.prog) w 41 A len cap Tryd.underlying41 .i64 .i64 (k : Int) ((k : Int) + n) (by omega) (by omega) (by omega)
  have hz : ∀ w, (sizeOf (Tryd.prog.elem 41)).run Tryd.prog w = .ok 1 w := fun w => by kernel_rfl
  have e1 : (k : Int).toNat = k := by omega
  have e2 : ((k : Int) + n).toNat = k + n := by omega
  have e3 : k + n - k = n := by omega
  by_cases hk : cap = k
  · refine ⟨A, fun w => ?_, fun w B l _ => ?_⟩
    · rw [hr w, hz w, e1, e2]
      simp [Result.andThen, sliced, e3, hk]
    · have : n = 0 := by omega
      subst this
      simp [cells]
      exact Lies.nil
  · refine ⟨A.map (·.add k), fun w => ?_, fun w B l hl => ?_⟩
    · rw [hr w, hz w, e1, e2]
      simp [Result.andThen, sliced, e3, hk]
    · have hc := (hl.cut k).take n
      have e : A.map (·.add k) = A.map (fun a => ⟨a.block, a.off + k, none⟩) ∨ (cells l).length = 0 := by
        by_cases h0 : (cells l).length = 0
        · exact .inr h0
        · obtain ⟨b, off, rfl, _⟩ := hl.at_ (i := 0) (by omega)
          left
          simp [Go.WideShapes.add_plain]
      have ec : cells ((l.drop k).take n) = ((cells l).drop k).take n := by simp [cells, List.map_drop, List.map_take]
      rw [ec]
      rcases e with e | e
      · rw [e]; exact hc
      · have : cells l = [] := List.eq_nil_of_length_eq_zero e
        rw [this]; simp
        exact Lies.nil

/-- What take hands back: n bytes that lie below the scanner. -/
def Took (p : Nat) (l : List UInt8) (k n : Nat) (w : World) (e : Ending) (w' : World) : Prop :=
  ∃ A c, e = .returned (.slice A n c) ∧ n ≤ c ∧ c ≤ maxLen ∧ Lies w' p A (cells (nums ((l.drop k).take n))) ∧ Sc w' p l (k + n) ∧ w.grownBy w' (some p)

set_option maxHeartbeats 800000 in
theorem take_ok {w : World} {p : Nat} {l : List UInt8} {k : Nat} (h : Sc w p l k) (n : Nat) (hn : k + n ≤ l.length) :
    Calls Tryd.prog 57 #[.pointer (some ⟨p, 0, none⟩), .int .i64 n] w (Took p l k n w) := by
  have hle := h.le
  have HL := Lib.hid (fun m => left_any (h.drewN m))
  have HS := Lib.hid h
  have c1 := h.at
  have f1 := h.free
  clear h
  have d1 : (0 : Int) ≤ n := by omega
  have d2 : (n : Int) ≤ (l.length : Int) - k := by omega
  have d3 : (k : Int) + n ≤ 9223372036854775807 := by omega
  go_enter Tryd.func57, Tryd.ntmps57
  go_wp2_with (go_at_call 55; go_must ((with_reducible refine (unlessT _ _ _).mono ?_); rintro e w' ⟨rfl, rfl⟩))
  go_quiet (first
    | (go_at_call 20; exact Calls.quiet_of (HL.out _))
    | (go_at_call 55; exact (unlessT _ _ _).mono fun _ _ h => ⟨h.1, _, h.2.symm⟩))
  go_wp2
  obtain ⟨hs2, hg2⟩ := HS.out.moved nq ((k : Int) + n) (k + n) (by omega) hn
  generalize (w.drewN nq).setCell ⟨p, 1, none⟩ (.int .i64 ((k : Int) + n)) = W at *
  obtain ⟨A, cap, c0', hlies, hc, hm⟩ := hs2.data
  have c1' := hs2.at
  rw [show ((k + n : Nat) : Int) = (k : Int) + n by omega] at c1'
  obtain ⟨A', hcut, hcl⟩ := cut_run A l.length cap k n hn hc
  have HLI := Lib.hid (hcl W p (nums l) hlies)
  have HS2 := Lib.hid hs2
  have HG2 := Lib.hid hg2
  clear hlies hs2 hg2 c1 f1 hcl
  go_quiet (fail)
  go_wp2
  go_ret
  exact ⟨A', cap - k, rfl, by omega, by omega, by have := HLI.out; unfold nums at *; rw [List.map_take, List.map_drop]; exact this, HS2.out.drewN _, gb_drewN HG2.out _⟩
/-- An error that take tells. -/
def Failed (p : Nat) (c : Int) (k : Nat) (w : World) (e : Ending) (w' : World) : Prop := e = .panicked (stopP c k) ∧ w.grownBy w' (some p)
theorem take_neg {w : World} {p : Nat} {l : List UInt8} {k : Nat} (h : Sc w p l k) (n : Int) (hn : n < 0) :
    Calls Tryd.prog 57 #[.pointer (some ⟨p, 0, none⟩), .int .i64 n] w (Failed p 1 k w) := by
  have c1 := h.at
  have d1 : ¬ 0 ≤ n := by omega
  have d2 : decide (0 ≤ n) = false := by simpa using hn
  clear h
  go_enter Tryd.func57, Tryd.ntmps57
  go_wp2_with (go_at_call 55; go_must ((with_reducible refine (unlessF _ _ _).mono ?_); rintro e w' ⟨rfl, rfl⟩))
  exact ⟨rfl, rfl, gb_refl _ _⟩
theorem left_held {w W : World} {p : Nat} {l : List UInt8} {k : Nat} (h : (Sc W p l k ∧ w.grownBy W (some p)) ∧ W.cell? ⟨p, 1, none⟩ = some (.int .i64 k)) :
    Calls Tryd.prog 20 #[.pointer (some ⟨p, 0, none⟩)] W fun e w' => e = .returned (.int .i64 ((l.length : Int) - k)) ∧ (Sc w' p l k ∧ w.grownBy w' (some p)) ∧ w'.cell? ⟨p, 1, none⟩ = some (.int .i64 k) :=
  (left_any h.1.1).mono fun _ _ ⟨h1, m, h2⟩ => ⟨h1, by subst h2; exact ⟨⟨h.1.1.drewN m, gb_drewN h.1.2 m⟩, h.2⟩⟩
set_option maxHeartbeats 800000 in
theorem take_short {w : World} {p : Nat} {l : List UInt8} {k : Nat} (h : Sc w p l k) (n : Nat) (hn : l.length < k + n) :
    Calls Tryd.prog 57 #[.pointer (some ⟨p, 0, none⟩), .int .i64 n] w (Failed p 2 k w) := by
  have hle := h.le
  have HS := Lib.hid h
  have c1 := h.at
  clear h
  have d1 : (0 : Int) ≤ n := by omega
  have d2 : ¬ (n : Int) ≤ (l.length : Int) - k := by omega
  have d3 : decide ((n : Int) ≤ (l.length : Int) - k) = false := by simpa using d2
  go_enter Tryd.func57, Tryd.ntmps57
  go_wp2_with (go_at_call 55; go_must ((with_reducible refine (unlessT _ _ _).mono ?_); rintro e w' ⟨rfl, rfl⟩))
  refine wp_region_held_drew (S := fun W => (Sc W p l k ∧ w.grownBy W (some p)) ∧ W.cell? ⟨p, 1, none⟩ = some (.int .i64 k)) (by kernel_rfl) ⟨⟨HS.out, gb_drew (gb_refl _ _)⟩, c1⟩ (fun hHeld => ?_)
  (refine wpAnyH_take (i := 0) (oi := { dst := some 13, op := Op.move (Operand.tmp 1), type := 3, pos := "scan.go:44", after := #[], guard := none }) (v := ?_) rfl (by kernel_rfl) (by kernel_rfl) (by kernel_rfl) (fun _ _ _ h => h) ?_ (by assumption) ?_; rotate_left; focus (refine .inl ⟨by kernel_rfl, ?_⟩; intro w hSw; (try dsimp only at hSw); go_simp; (try with_reducible rfl)); (try simp only [Act.put, List.setIfInBounds_toArray, List.set_cons_zero, List.set_cons_succ]))
  (refine wpAnyH_take (i := 1) (oi := { dst := some 14, op := Op.move (Operand.tmp 0), type := 45, pos := "scan.go:44", after := #[], guard := none }) (v := ?_) rfl (by kernel_rfl) (by kernel_rfl) (by kernel_rfl) (fun _ _ _ h => h) ?_ (by assumption) ?_; rotate_left; focus (refine .inl ⟨by kernel_rfl, ?_⟩; intro w hSw; (try dsimp only at hSw); go_simp; (try with_reducible rfl)); (try simp only [Act.put, List.setIfInBounds_toArray, List.set_cons_zero, List.set_cons_succ]))
  (refine wpAnyH_take (i := 4) (oi := { dst := some 17, op := Op.move (Operand.tmp 0), type := 45, pos := "scan.go:44", after := #[], guard := none }) (v := ?_) rfl (by kernel_rfl) (by kernel_rfl) (by kernel_rfl) (fun _ _ _ h => h) ?_ (by assumption) ?_; rotate_left; focus (refine .inl ⟨by kernel_rfl, ?_⟩; intro w hSw; (try dsimp only at hSw); go_simp; (try with_reducible rfl)); (try simp only [Act.put, List.setIfInBounds_toArray, List.set_cons_zero, List.set_cons_succ]))
  (refine wpAnyH_take (i := 5) (oi := { dst := some 18, op := Op.nilCheck (Operand.tmp 17), type := 0, pos := "scan.go:44", after := #[{ on := 4, ground := Ground.data }], guard := none }) (v := ?_) rfl (by kernel_rfl) (by kernel_rfl) (by kernel_rfl) (fun _ _ _ h => h) ?_ (by assumption) ?_; rotate_left; focus (refine .inl ⟨by kernel_rfl, ?_⟩; intro w hSw; (try dsimp only at hSw); go_simp; (try with_reducible rfl)); (try simp only [Act.put, List.setIfInBounds_toArray, List.set_cons_zero, List.set_cons_succ]))
  (refine wpAnyH_take (i := 6) (oi := { dst := some 19, op := Op.fieldAddr 71 (Operand.tmp 18) 1, type := 0, pos := "scan.go:44", after := #[{ on := 5, ground := Ground.data }], guard := none }) (v := ?_) rfl (by kernel_rfl) (by kernel_rfl) (by kernel_rfl) (fun _ _ _ h => h) ?_ (by assumption) ?_; rotate_left; focus (refine .inl ⟨by kernel_rfl, ?_⟩; intro w hSw; (try dsimp only at hSw); go_simp; (try with_reducible rfl)); (try simp only [Act.put, List.setIfInBounds_toArray, List.set_cons_zero, List.set_cons_succ]))
  (refine wpAnyH_take (i := 7) (oi := { dst := some 20, op := Op.load 3 (Operand.tmp 19), type := 3, pos := "scan.go:44", after := #[{ on := 6, ground := Ground.data }], guard := none }) (v := ?_) rfl (by kernel_rfl) (by kernel_rfl) (by kernel_rfl) (fun _ _ _ h => h) ?_ (by assumption) ?_; rotate_left; focus (refine .inl ⟨by kernel_rfl, ?_⟩; intro w hSw; (try dsimp only at hSw); go_simp; (try with_reducible rfl)); (try simp only [Act.put, List.setIfInBounds_toArray, List.set_cons_zero, List.set_cons_succ]))
  refine wpAnyH_ready (rs := [2]) (by kernel_rfl) (by simp) ?_
  refine AllReadyH.cons (o := { dst := some 15, op := Op.call { callee := Callee.value (Operand.func 20), args := #[Operand.tmp 14], argTypes := #[45] }, type := 3, pos := "scan.go:44", after := #[{ on := 1, ground := Ground.data }], guard := none }) rfl (fun K hK => ?_) AllReadyH.nil
  go_simp
  (go_at_call 20; (with_reducible refine (left_held hHeld).mono ?_); rintro e w' ⟨rfl, hk⟩)
  refine hK.out _ _ hk (fun hHeld2 => ?_)
  clear hK K hHeld
  (try simp only [Act.put, List.setIfInBounds_toArray, List.set_cons_zero, List.set_cons_succ])
  (refine wpAnyH_take (i := 3) (oi := { dst := some 16, op := Op.binOp BinOp.leq 3 (Operand.tmp 13) (Operand.tmp 15) 3, type := 4, pos := "scan.go:44", after := #[{ on := 0, ground := Ground.data }, { on := 2, ground := Ground.data }], guard := none }) (v := ?_) rfl (by kernel_rfl) (by kernel_rfl) (by kernel_rfl) (fun _ _ _ h => h) ?_ (by assumption) ?_; rotate_left; focus (refine .inl ⟨by kernel_rfl, ?_⟩; intro w hSw; (try dsimp only at hSw); go_simp; (try with_reducible rfl)); (try simp only [Act.put, List.setIfInBounds_toArray, List.set_cons_zero, List.set_cons_succ]))
  refine wpAnyH_ready (rs := [8]) (by kernel_rfl) (by simp) ?_
  refine AllReadyH.cons (o := { dst := some 21, op := Op.call { callee := Callee.value (Operand.func 55), args := #[Operand.tmp 16, Operand.const (Value.int IntKind.i64 2), Operand.tmp 20], argTypes := #[4, 26, 3] }, type := 0, pos := "scan.go:44", after := #[{ on := 3, ground := Ground.data }, { on := 7, ground := Ground.data }, { on := 2, ground := Ground.chain }], guard := none }) rfl (fun K hK => ?_) AllReadyH.nil
  go_simp
  (go_at_call 55; (with_reducible refine (unlessF _ _ _).mono ?_); rintro e w' ⟨rfl, rfl⟩; exact ⟨rfl, rfl, hHeld2.1.2⟩)
end Go.Proofs.YtebgmfjgapmpfabDoor

/- Byte, Sub, End, bytes.Clone, Over. -/
namespace Go.Proofs.YtebgmfjgapmpfabDoor
set_option maxRecDepth 100000
open Go.RowKit
set_option linter.unusedVariables false

/-- The next byte. -/
def byteR (l : List UInt8) (k : Nat) : Res UInt8 := match l[k]? with
  | some c => .ok c (k + 1)
  | none => .err 2 k
abbrev encB (c : UInt8) : Value := .int .u8 c.toNat

theorem byte_any {w : World} {p : Nat} {l : List UInt8} {k : Nat} (h : Sc w p l k) :
    Calls Tryd.prog 74 #[.pointer (some ⟨p, 0, none⟩)] w (Did encB p l w (byteR l k)) := by
  unfold byteR
  by_cases hk : k < l.length
  · have hc : l[k]? = some l[k] := List.getElem?_eq_getElem hk
    rw [hc]
    have HT := Lib.hid (show Calls Tryd.prog 57 #[.pointer (some ⟨p, 0, none⟩), .int .i64 1] w (Took p l k 1 w) from take_ok h 1 (by omega))
    have HE := Lib.hid (show nums ((l.drop k).take 1) = [(l[k].toNat : Int)] by rw [List.drop_eq_getElem_cons hk]; rfl)
    obtain ⟨c, hcc⟩ : ∃ c, c = l[k] := ⟨_, rfl⟩
    rw [← hcc] at HE ⊢
    clear hc hcc h hk
    go_enter Tryd.func74, Tryd.ntmps74
    go_wp2_with (go_at_call 57; go_must ((with_reducible refine HT.out.mono ?_); rintro e w1 ⟨A, cc, rfl, h1, h2, hl, hs, hg⟩; rw [HE.out] at hl; obtain ⟨b, off, rfl, hb, hcell⟩ := hl.byte (i := 0) rfl; rw [Nat.add_zero] at hcell; have HS := Lib.hid hs; have HG := Lib.hid hg; clear hs hg hl))
    go_ret
    exact ⟨rfl, HS.out, HG.out⟩
  · have hc : l[k]? = none := List.getElem?_eq_none (by omega)
    rw [hc]
    have HT := Lib.hid (show Calls Tryd.prog 57 #[.pointer (some ⟨p, 0, none⟩), .int .i64 1] w (Failed p 2 k w) from take_short h 1 (by omega))
    clear hc h hk
    go_enter Tryd.func74, Tryd.ntmps74
    go_wp2_with (go_at_call 57; go_must ((with_reducible refine HT.out.mono ?_); rintro e w1 ⟨rfl, hg⟩; have HG := Lib.hid hg; clear hg))
    exact ⟨rfl, rfl, HG.out⟩

/-- A scanner of the next n bytes, at a new block. -/
def Subbed (p : Nat) (l : List UInt8) (k n : Nat) (w : World) (e : Ending) (w' : World) : Prop :=
  ∃ q, e = .returned (.pointer (some ⟨q, 0, none⟩)) ∧ w.heap.size ≤ q ∧ Sc w' q ((l.drop k).take n) 0 ∧ Sc w' p l (k + n) ∧ w.grownBy w' (some p)
theorem sub_ok {w : World} {p : Nat} {l : List UInt8} {k : Nat} (h : Sc w p l k) (n : Nat) (hn : k + n ≤ l.length) :
    Calls Tryd.prog 56 #[.pointer (some ⟨p, 0, none⟩), .int .i64 n] w (Subbed p l k n w) := by
  have HT := Lib.hid (take_ok h n hn)
  have hlen : ((l.drop k).take n).length = n := by rw [List.length_take, List.length_drop]; omega
  have HLEN := Lib.hid hlen
  have HP := Lib.hid h.lt
  clear hlen h
  go_enter Tryd.func56, Tryd.ntmps56
  go_wp2_with (go_at_call 57; go_must ((with_reducible refine HT.out.mono ?_); rintro e w1 ⟨A, c, rfl, h1, h2, hl, hs, hg⟩; have HL := Lib.hid hl; have HS := Lib.hid hs; have HG := Lib.hid hg; have h1' := Lib.hid h1; have h2' := Lib.hid h2; clear hl hs hg h1 h2))
  go_ret
  refine ⟨w1.heap.size, rfl, HG.out.size, ⟨A, c, ?_, ?_, by rw [HLEN.out]; exact h1'.out, h2'.out, by simp⟩, HS.out.alloc _, gb_alloc HG.out _⟩
  · rw [HLEN.out]; exact Whole.made _ _ _
  · exact (HL.out.below (below_box w1 _) (by have := HG.out.size; have := HP.out; omega)).more (by have := HG.out.size; have := HP.out; omega)

/-- bytes.Clone of bytes that lie somewhere, one at least. -/
theorem clone_ok {w : World} {A : Option Addr} {cap : Nat} {l : List UInt8} (hl : Lies w w.heap.size A (cells (nums l))) (h0 : 0 < l.length) (hc : l.length ≤ 1000000) :
    Calls Tryd.prog 27 #[.slice A l.length cap] w (BytesL l w) := by
  have hA : ∃ b off, A = some ⟨b, off, none⟩ := by
    obtain ⟨b, off, e, _⟩ := hl.byte (i := 0) (c := ((nums l)[0]'(by rw [nums_length]; exact h0))) (List.getElem?_eq_getElem _)
    exact ⟨b, off, e⟩
  obtain ⟨b, off, rfl⟩ := hA
  have hnil : ∀ w : World, (binOp BinOp.eql 41 (.slice (some ⟨b, off, none⟩) l.length cap) (.slice none 0 0)).run Tryd.prog w = .ok (.bool false) w := fun w => by
    simp only [binOp]
    simp [run_equal_slice_nil w 41 5 _ _ _ Tryd.underlying41]
  have R0 := Lib.hid (Row.made w [] w.heap.size w.heap.size rfl (Nat.le_refl _) (by simp))
  have HL := Lib.hid (hl.below (below_box w (.cells #[] 5)) (Nat.le_refl _))
  clear hl
  go_enter Tryd.func27, Tryd.ntmps27
  go_wp2_with (at_builtin; (refine row_lies rfl _ _ rfl w.heap.size _ _ rfl R0.out _ _ _ _ l rfl rfl HL.out h0 (by simp; omega) (by simp) ?_; intro v2 w2 hr2 hb2; have HR2 := Lib.hid hr2; have HB2 := Lib.hid hb2; clear hr2 hb2))
  go_ret
  exact ⟨_, rfl, HR2.out, (below_box w _).trans HB2.out⟩
/-- A new scanner of bytes that lie somewhere, one at least. -/
def Overs (l : List UInt8) (w : World) (e : Ending) (w' : World) : Prop :=
  ∃ q, e = .returned (.pointer (some ⟨q, 0, none⟩)) ∧ w.heap.size ≤ q ∧ Sc w' q l 0 ∧ Below w.heap.size w w'
theorem over_ok {w : World} {A : Option Addr} {cap : Nat} {l : List UInt8} (hl : Lies w w.heap.size A (cells (nums l))) (h0 : 0 < l.length) (hc : l.length ≤ 1000000) :
    Calls Tryd.prog 14 #[.slice A l.length cap] w (Overs l w) := by
  have HC := Lib.hid (clone_ok (cap := cap) hl h0 hc)
  clear hl
  go_enter Tryd.func14, Tryd.ntmps14
  go_wp2_with (go_at_call 27; go_must ((with_reducible refine HC.out.mono ?_); intro e w1 h; obtain ⟨v, rfl, hr, hb⟩ := h; obtain ⟨A1, c1, rfl, h1, h2, hl1, _⟩ := lies_own hr; have HL := Lib.hid hl1; have H1 := Lib.hid h1; have H2 := Lib.hid h2; have HB := Lib.hid hb; clear hl1 hr h1 h2 hb))
  go_ret
  exact ⟨w1.heap.size, rfl, HB.out.size, ⟨A1, c1, Whole.made _ _ _, HL.out.below (below_box w1 _) (Nat.le_refl _), H1.out, H2.out, by simp⟩, HB.out.trans ((below_box w1 _).mono HB.out.size)⟩

end Go.Proofs.YtebgmfjgapmpfabDoor

/- leb.ReadUint of any bytes; number, Uint, Index. -/
namespace Go.Proofs.YtebgmfjgapmpfabDoor
set_option maxRecDepth 100000
open Go.RowKit
set_option linter.unusedVariables false

/-- How many bytes of a varint of n bits go on. -/
noncomputable def onN (l : List UInt8) (k n : Nat) : Nat := (stop_ex ((nums l).drop k) ((n + 6) / 7)).choose
theorem onN_stop (l : List UInt8) (k n : Nat) : Stop ((n + 6) / 7) ((nums l).drop k) (onN l k n) := (stop_ex ((nums l).drop k) ((n + 6) / 7)).choose_spec
/-- A number of n bits. -/
noncomputable def uintR (l : List UInt8) (k n : Nat) : Res Int :=
  if 1 ≤ n ∧ n ≤ 64 then
    if onN l k n = (n + 6) / 7 then .err 3 k else
      match ((nums l).drop k)[onN l k n]? with
      | none => .err 2 k
      | some c => if c / 2 ^ (n - 7 * onN l k n) = 0 then .ok (numU (((nums l).drop k).take (onN l k n)) c) (k + (onN l k n + 1)) else .err 3 k
  else .err 1 k
theorem uintR_err {l : List UInt8} {k n : Nat} {c a : Int} (h : uintR l k n = .err c a) : a = k ∧ (c = 1 ∨ c = 2 ∨ c = 3) := by
  unfold uintR at h
  repeat' split at h
  all_goals first | (injection h with h1 h2; subst h1; subst h2; exact ⟨rfl, by omega⟩) | cases h
theorem nums_wf (l : List UInt8) : ∀ c ∈ nums l, 0 ≤ c ∧ c ≤ 255 := by
  intro c hc
  obtain ⟨b, _, rfl⟩ := List.mem_map.1 hc
  have := b.toNat_lt
  omega
theorem uintR_ok {l : List UInt8} {k n : Nat} {v : Int} {k' : Nat} (h : uintR l k n = .ok v k') : k' ≤ l.length ∧ 0 ≤ v ∧ v < 2 ^ n := by
  have hp := onN_stop l k n
  unfold uintR at h
  by_cases h64 : 1 ≤ n ∧ n ≤ 64
  · rw [if_pos h64] at h
    by_cases h1 : onN l k n = (n + 6) / 7
    · rw [if_pos h1] at h; cases h
    · rw [if_neg h1] at h
      cases hpc : ((nums l).drop k)[onN l k n]? with
      | none => rw [hpc] at h; cases h
      | some c =>
        rw [hpc] at h
        by_cases hf : c / 2 ^ (n - 7 * onN l k n) = 0
        · simp only [if_pos hf] at h
          injection h with e1 e2
          subst e1; subst e2
          have hlen := (List.getElem?_eq_some_iff.1 hpc).1
          rw [List.length_drop, nums_length] at hlen
          have hl : (((nums l).drop k).take (onN l k n)).length = onN l k n := by rw [List.length_take, List.length_drop, nums_length]; omega
          obtain ⟨l0, l1⟩ := low_bd (((nums l).drop k).take (onN l k n))
          rw [hl] at l1
          have hM := hp.leM
          have c0 := (nums_wf l c (List.mem_of_mem_drop (List.mem_of_getElem? hpc))).1
          have := bdU l0 l1 c0 (b := n) (by omega) hf
          unfold numU
          rw [hl]
          exact ⟨by omega, this.1, this.2⟩
        · simp only [if_neg hf] at h; cases h
  · rw [if_neg h64] at h; cases h
/-- What leb.ReadUint hands back. -/
def readT : Res Int → Value
  | .ok v k => .tuple #[.int .u64 v, .int .i64 k, .int .i64 0]
  | .err c _ => .tuple #[.int .u64 0, .int .i64 0, .int .i64 c]
theorem readU_any {w : World} {B : Nat} {A : Option Addr} {cap : Nat} {l : List UInt8} (hl : Lies w B A (cells (nums l))) (hc : l.length ≤ cap) (hm : cap ≤ maxLen) (k n : Nat) (hk : k ≤ l.length) :
    Calls Tryd.prog 101 #[.slice A l.length cap, .int .i64 k, .int .i64 n] w fun x w' => x = .returned (readT (uintR l k n)) ∧ w = w' := by
  have hlen := nums_length l
  have hb := nums_wf l
  have hp := onN_stop l k n
  have hpM := hp.leM
  have hpR := hp.leR
  rw [List.length_drop, hlen] at hpR
  rw [← hlen] at hc hk ⊢
  unfold uintR
  by_cases h64 : 1 ≤ n ∧ n ≤ 64
  · rw [if_pos h64]
    obtain ⟨n1, n2⟩ := h64
    by_cases h1 : onN l k n = (n + 6) / 7
    · rw [if_pos h1]
      refine ru_fail _ _ _ 3 w (.inr (.inr rfl)) ?_
      have := length_right (nums l) A cap B k n _ w hl hb hc hm hk n1 n2 hp
      unfold lenN lenE at this
      rwa [if_pos h1, if_pos h1] at this
    · rw [if_neg h1]
      by_cases h2 : onN l k n = (nums l).length - k
      · have e : ((nums l).drop k)[onN l k n]? = none := List.getElem?_eq_none (by rw [List.length_drop]; omega)
        rw [e]
        refine ru_fail _ _ _ 2 w (.inr (.inl rfl)) ?_
        have := length_right (nums l) A cap B k n _ w hl hb hc hm hk n1 n2 hp
        unfold lenN lenE at this
        rwa [if_neg h1, if_neg h1, if_pos h2, if_pos h2] at this
      · obtain ⟨c, hpc⟩ : ∃ c, ((nums l).drop k)[onN l k n]? = some c := ⟨_, List.getElem?_eq_getElem (by rw [List.length_drop]; omega)⟩
        rw [hpc]
        by_cases hf : c / 2 ^ (n - 7 * onN l k n) = 0
        · simp only [if_pos hf]
          exact ru_ok (nums l) A cap B k n _ c w hl hb hc hm hk n1 n2 hp (by omega) hpc hf
        · simp only [if_neg hf]
          exact ru_far (nums l) A cap B k n _ c w hl hb hc hm hk n1 n2 hp (by omega) hpc hf
  · rw [if_neg h64]
    exact ru_fail _ _ _ 1 w (.inl rfl) (length_wrong (nums l) A cap _ _ w (by omega))
abbrev enc64 (v : Int) : Value := .int .u64 v
set_option maxHeartbeats 800000 in
theorem number_scan {w : World} {p : Nat} {l : List UInt8} {k : Nat} (h : Sc w p l k) (n : Nat) :
    Calls Tryd.prog 100 #[.pointer (some ⟨p, 0, none⟩), .int .i64 n, .func (.func 101) #[] #[]] w (Did enc64 p l w (uintR l k n)) := by
  have c1 := h.at
  obtain ⟨A, cap, c0, hl, hc, hm⟩ := h.data
  have hU : ∀ m, _ := fun m => readU_any (w := w.drewN m) hl hc hm k n h.le.1
  cases hr : uintR l k n with
  | ok v k' =>
    simp only [hr, readT] at hU
    have HU := Lib.hid hU
    have HS := Lib.hid h
    have f1 := h.free
    have HK := Lib.hid (uintR_ok hr).1
    clear hU hr hl h
    go_enter Tryd.func100, Tryd.ntmps100
    go_wp2
    go_quiet (first
      | (go_at_call 101; exact (HU.out _).mono fun _ _ h => ⟨h.1, _, h.2.symm⟩))
    go_wp2_with (go_at_call 55; go_must ((with_reducible refine (unlessT _ _ _).mono ?_); rintro e w' ⟨rfl, rfl⟩))
    go_ret
    exact ⟨rfl, HS.out.moved nq k' k' rfl HK.out⟩
  | err c a =>
    simp only [hr, readT] at hU
    have HU := Lib.hid hU
    obtain ⟨rfl, hcs⟩ := uintR_err hr
    have e2 : (c == 0) = false := by simp; omega
    clear hU hr hl h hcs
    go_enter Tryd.func100, Tryd.ntmps100
    go_wp2
    go_quiet (first
      | (go_at_call 101; exact (HU.out _).mono fun _ _ h => ⟨h.1, _, h.2.symm⟩))
    go_wp2_with (go_at_call 55; go_must ((with_reducible refine (unlessF _ _ _).mono ?_); rintro e w' ⟨rfl, rfl⟩))
    exact ⟨rfl, rfl, gb_drewN (gb_refl _ _) _⟩
/-- Scanner.Uint. -/
theorem uint_scan {w : World} {p : Nat} {l : List UInt8} {k : Nat} (h : Sc w p l k) (n : Nat) :
    Calls Tryd.prog 76 #[.pointer (some ⟨p, 0, none⟩), .int .i64 n] w (Did enc64 p l w (uintR l k n)) := by
  have hN := number_scan h n
  cases hr : uintR l k n with
  | ok v k' =>
    rw [hr] at hN
    have HN := Lib.hid hN
    clear hN hr h
    go_enter Tryd.func76, Tryd.ntmps76
    go_wp2_with (go_at_call 100; go_must ((with_reducible refine HN.out.mono ?_); rintro e w1 ⟨rfl, hs, hg⟩; have HS := Lib.hid hs; have HG := Lib.hid hg; clear hs hg))
    go_ret
    exact ⟨rfl, HS.out, HG.out⟩
  | err c a =>
    rw [hr] at hN
    have HN := Lib.hid hN
    clear hN hr h
    go_enter Tryd.func76, Tryd.ntmps76
    go_wp2_with (go_at_call 100; go_must ((with_reducible refine HN.out.mono ?_); rintro e w1 ⟨rfl, hg⟩; have HG := Lib.hid hg; clear hg))
    exact ⟨rfl, rfl, HG.out⟩
/-- A number of 32 bits. -/
noncomputable def indexR (l : List UInt8) (k : Nat) : Res Int := uintR l k 32
abbrev enc32 (v : Int) : Value := .int .u32 v
theorem index_scan {w : World} {p : Nat} {l : List UInt8} {k : Nat} (h : Sc w p l k) :
    Calls Tryd.prog 53 #[.pointer (some ⟨p, 0, none⟩)] w (Did enc32 p l w (indexR l k)) := by
  have hN : Calls Tryd.prog 76 #[.pointer (some ⟨p, 0, none⟩), .int .i64 32] w (Did enc64 p l w (uintR l k 32)) := uint_scan h 32
  unfold indexR
  cases hr : uintR l k 32 with
  | ok v k' =>
    rw [hr] at hN
    have HN := Lib.hid hN
    obtain ⟨hk, v0, v1⟩ := uintR_ok hr
    have v2 : v < 4294967296 := v1
    have hw : IntKind.u32.wrap v = v := by simp [IntKind.wrap, IntKind.bits, IntKind.signed]; omega
    clear hN hr h v1
    go_enter Tryd.func53, Tryd.ntmps53
    go_wp2_with (go_at_call 76; go_must ((with_reducible refine HN.out.mono ?_); rintro e w1 ⟨rfl, hs, hg⟩; have HS := Lib.hid hs; have HG := Lib.hid hg; clear hs hg))
    go_ret
    exact ⟨rfl, HS.out, HG.out⟩
  | err c a =>
    rw [hr] at hN
    have HN := Lib.hid hN
    clear hN hr h
    go_enter Tryd.func53, Tryd.ntmps53
    go_wp2_with (go_at_call 76; go_must ((with_reducible refine HN.out.mono ?_); rintro e w1 ⟨rfl, hg⟩; have HG := Lib.hid hg; clear hg))
    exact ⟨rfl, rfl, HG.out⟩
end Go.Proofs.YtebgmfjgapmpfabDoor
