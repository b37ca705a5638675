/- leb.ReadUint and leb.ReadInt. -/
import Derived.Test.YtmjcbliobjmmfaaShift
namespace Go.Proofs.Ytmjcbliobjmmfaa
open Go.RowKit
set_option linter.unusedVariables false

set_option maxHeartbeats 800000 in
/-- No varint: the error that length tells. -/
theorem ru_fail (sl a_ n_ : Value) (e : Int) (w : World) (he : e = 1 ∨ e = 2 ∨ e = 3)
    (h : Calls Try.prog 49 #[sl, a_, n_] w fun x w' => x = .returned (.tuple #[.int .i64 0, .int .i64 e]) ∧ w = w') :
    Calls Try.prog 48 #[sl, a_, n_] w fun x w' => x = .returned (.tuple #[.int .u64 0, .int .i64 0, .int .i64 e]) ∧ w = w' := by
  have H := Lib.hid h
  clear h
  have e1 : (e != 0) = true := by simp; omega
  have e2 : (e == 0) = false := by simp; omega
  go_enter Try.func48, Try.ntmps48
  go_wp2_with (go_at_call 49; go_must (refine (Calls.mono H.out ?_); rintro x w' ⟨rfl, rfl⟩))
  go_ret3
  exact ⟨rfl, rfl⟩
theorem rcells {r : List Int} {k p : Nat} : cells ((r.drop k).take p) = ((cells r).drop k).take p := by simp [cells, List.map_drop, List.map_take]
theorem Lies.part {w : World} {B b off : Nat} {r : List Int} (h : Lies w B (some ⟨b, off, none⟩) (cells r)) (k p : Nat) : Lies w B (some ⟨b, off + k, none⟩) (cells ((r.drop k).take p)) := by
  rw [rcells]
  have g := (h.add k).take p
  have e : Option.map (fun x : Addr => x.add k) (some ⟨b, off, none⟩) = some ⟨b, off + k, none⟩ := by
    unfold Addr.add
    by_cases hk : k = 0 <;> simp [hk]
  rw [e] at g
  exact g

theorem wrapU {z : Int} (h0 : 0 ≤ z) (h1 : z < 18446744073709551616) : IntKind.u64.wrap z = z := by simp only [IntKind.wrap, IntKind.bits, IntKind.signed]; simp; omega
theorem wrapI {z : Int} (h0 : -9223372036854775808 ≤ z) (h1 : z < 9223372036854775808) : IntKind.i64.wrap z = z := by rw [IntKind.wrap_i64]; omega

/-- The numbers of a varint: p bytes that go on and the last one, c. -/
def numU (l : List Int) (c : Int) : Int := low l + c * 2 ^ (7 * l.length)
def numS (l : List Int) (c : Int) : Int := low l + sg c * 2 ^ (7 * l.length)

set_option maxHeartbeats 1600000 in
theorem ru_ok (r : List Int) (A : Option Addr) (cap B : Nat) (k n p : Nat) (c : Int) (w : World)
    (hl : Lies w B A (cells r)) (hb : ∀ c ∈ r, 0 ≤ c ∧ c ≤ 255) (hc : r.length ≤ cap) (hm : cap ≤ maxLen)
    (hk : k ≤ r.length) (n1 : 1 ≤ n) (n2 : n ≤ 64) (hp : Stop ((n + 6) / 7) (r.drop k) p) (hpM : p < (n + 6) / 7) (hpc : (r.drop k)[p]? = some c) (hf : c / 2 ^ (n - 7 * p) = 0) :
    Calls Try.prog 48 #[.slice A r.length cap, .int .i64 k, .int .i64 n] w fun x w' => x = .returned (.tuple #[.int .u64 (numU ((r.drop k).take p) c), .int .i64 ((k : Int) + (p + 1)), .int .i64 0]) ∧ w = w' := by
  have CL := Lib.hid (length_right r A cap B k n p w hl hb hc hm hk n1 n2 hp)
  unfold maxLen at hm
  have hrp : k + p < r.length := by
    have := (List.getElem?_eq_some_iff.1 hpc).1
    rw [List.length_drop] at this; omega
  have hlt : ((r.drop k).take p).length = p := by rw [List.length_take, List.length_drop]; omega
  have hN : lenN ((n + 6) / 7) (r.length - k) p = (p : Int) + 1 := by unfold lenN; rw [if_neg (by omega), if_neg (by omega)]
  have hE : lenE ((n + 6) / 7) (r.length - k) p = 0 := by unfold lenE; rw [if_neg (by omega), if_neg (by omega)]
  rw [hN, hE] at CL
  obtain ⟨b, off, rfl, hbB, hcell⟩ := hl.byte (i := k + p) (c := c) (by rw [← hpc, List.getElem?_drop])
  have hpart := hl.part k p
  obtain ⟨c0, c1⟩ := hb c (List.mem_of_mem_drop (List.mem_of_getElem? hpc))
  have c2 := hp.off c hpM hpc
  have CW := Lib.hid (lower_any _ _ (cap - k) B w hpart (by omega) (fun d hd => hb d (List.mem_of_mem_drop (List.mem_of_mem_take hd))))
  have hbd := low_bd ((r.drop k).take p)
  have hnum : numU ((r.drop k).take p) c = low ((r.drop k).take p) + c * 2 ^ (7 * p) := by unfold numU; rw [hlt]
  rw [hnum]
  rw [hlt] at hbd CW
  obtain ⟨v, hv⟩ : ∃ v, v = low ((r.drop k).take p) := ⟨_, rfl⟩
  rw [← hv] at CW hbd ⊢
  obtain ⟨v0, v1⟩ := hbd
  have p9 : p ≤ 9 := by omega
  have pn : 7 * p < n := by omega
  have e56 := mono2 (a := 7 * p) (b := 63) (by omega)
  have e63 : (2 : Int) ^ 63 = 9223372036854775808 := rfl
  have hbu := bdU v0 v1 c0 (b := n) (by omega) hf
  have e64 := mono2 (a := n) (b := 64) n2
  have e18 : (2 : Int) ^ 64 = 18446744073709551616 := rfl
  have hz0 : 0 ≤ c * 2 ^ (7 * p) := Int.mul_nonneg c0 (Int.le_of_lt (p2 _))
  have hs1 : Op.shift .shr .u8 c .i64 ((n : Int) - 7 * p) = pure (.int .u8 0) := by rw [show (n : Int) - 7 * p = ((n - 7 * p : Nat) : Int) by omega, shr8 _ _ c0 c2, hf]
  have hs2 : Op.shift .shl .u64 c .i64 (7 * (p : Int)) = pure (.int .u64 (c * 2 ^ (7 * p))) := by rw [show 7 * (p : Int) = ((7 * p : Nat) : Int) by omega, shl64u _ _ (by omega) hz0 (by omega)]
  have hor := or_u64 v c (7 * p) (by omega) v0 v1 c0 (by omega)
  have hw : IntKind.u64.wrap (c * 2 ^ (7 * p)) = c * 2 ^ (7 * p) := wrapU hz0 (by omega)
  obtain ⟨z, hz⟩ : ∃ z, z = c * 2 ^ (7 * p) := ⟨_, rfl⟩
  have hw2 : IntKind.u64.wrap (c * 2 ^ (7 * p)) = z := by rw [hz]; exact hw
  rw [← hz] at hor hs2 ⊢
  clear hl hb hp hpart hN hE hv hpc hlt e56 e63 v1 hpM hnum hbu e64 e18 hf hw hz0 hz
  go_enter Try.func48, Try.ntmps48
  go_wp2_with (first
    | (go_at_call 49; go_must (refine (Calls.mono CL.out ?_); rintro x w' ⟨rfl, rfl⟩))
    | (go_at_call 50; go_must (refine (Calls.mono CW.out ?_); rintro x w' ⟨rfl, rfl⟩)))
  go_ret3
  exact ⟨rfl, rfl⟩
set_option maxHeartbeats 1600000 in
theorem ru_far (r : List Int) (A : Option Addr) (cap B : Nat) (k n p : Nat) (c : Int) (w : World)
    (hl : Lies w B A (cells r)) (hb : ∀ c ∈ r, 0 ≤ c ∧ c ≤ 255) (hc : r.length ≤ cap) (hm : cap ≤ maxLen)
    (hk : k ≤ r.length) (n1 : 1 ≤ n) (n2 : n ≤ 64) (hp : Stop ((n + 6) / 7) (r.drop k) p) (hpM : p < (n + 6) / 7) (hpc : (r.drop k)[p]? = some c) (hf : ¬ c / 2 ^ (n - 7 * p) = 0) :
    Calls Try.prog 48 #[.slice A r.length cap, .int .i64 k, .int .i64 n] w fun x w' => x = .returned (.tuple #[.int .u64 0, .int .i64 0, .int .i64 3]) ∧ w = w' := by
  have CL := Lib.hid (length_right r A cap B k n p w hl hb hc hm hk n1 n2 hp)
  unfold maxLen at hm
  have hrp : k + p < r.length := by
    have := (List.getElem?_eq_some_iff.1 hpc).1
    rw [List.length_drop] at this; omega
  have hlt : ((r.drop k).take p).length = p := by rw [List.length_take, List.length_drop]; omega
  have hN : lenN ((n + 6) / 7) (r.length - k) p = (p : Int) + 1 := by unfold lenN; rw [if_neg (by omega), if_neg (by omega)]
  have hE : lenE ((n + 6) / 7) (r.length - k) p = 0 := by unfold lenE; rw [if_neg (by omega), if_neg (by omega)]
  rw [hN, hE] at CL
  obtain ⟨b, off, rfl, hbB, hcell⟩ := hl.byte (i := k + p) (c := c) (by rw [← hpc, List.getElem?_drop])
  have hpart := hl.part k p
  obtain ⟨c0, c1⟩ := hb c (List.mem_of_mem_drop (List.mem_of_getElem? hpc))
  have c2 := hp.off c hpM hpc
  have CW := Lib.hid (lower_any _ _ (cap - k) B w hpart (by omega) (fun d hd => hb d (List.mem_of_mem_drop (List.mem_of_mem_take hd))))
  have hbd := low_bd ((r.drop k).take p)
  rw [hlt] at hbd CW
  obtain ⟨v, hv⟩ : ∃ v, v = low ((r.drop k).take p) := ⟨_, rfl⟩
  rw [← hv] at CW hbd
  obtain ⟨v0, v1⟩ := hbd
  have p9 : p ≤ 9 := by omega
  have pn : 7 * p < n := by omega
  have e56 := mono2 (a := 7 * p) (b := 63) (by omega)
  have e63 : (2 : Int) ^ 63 = 9223372036854775808 := rfl
  have hs1 : Op.shift .shr .u8 c .i64 ((n : Int) - 7 * p) = pure (.int .u8 (c / 2 ^ (n - 7 * p))) := by rw [show (n : Int) - 7 * p = ((n - 7 * p : Nat) : Int) by omega, shr8 _ _ c0 c2]
  generalize c / 2 ^ (n - 7 * p) = z at *
  have hz : (z != 0) = true := by simpa using hf
  have hz2 : (z == 0) = false := by simpa using hf
  clear hl hb hp hpart hN hE hv hpc hlt e56 e63 v1 hpM hf
  go_enter Try.func48, Try.ntmps48
  go_wp2_with (first
    | (go_at_call 49; go_must (refine (Calls.mono CL.out ?_); rintro x w' ⟨rfl, rfl⟩))
    | (go_at_call 50; go_must (refine (Calls.mono CW.out ?_); rintro x w' ⟨rfl, rfl⟩)))
  go_ret3
  exact ⟨rfl, rfl⟩
end Go.Proofs.Ytmjcbliobjmmfaa

