/- What sign bytes begin with, as lists of bytes: the encoding of a number, the first sign, how many. No program here. -/
import Derived.Test.YtcagnlafmakebaaDoorCode
import Derived.Lib.ValidLaws
import Derived.Lib.RuneCountTail
import Derived.Shelf.Unicode.DecodeSlow
namespace Go.Proofs.YtcagnlafmakebaaDoor
open Go.Lib

/-- The encoding of a number; none, if it is no sign. -/
def bytesN (c : Nat) : List UInt8 :=
  if 1114111 < c ∨ (55296 ≤ c ∧ c ≤ 57343) then []
  else if c < 128 then [UInt8.ofNat c]
  else if c < 2048 then [UInt8.ofNat (192 + c / 64), UInt8.ofNat (128 + c % 64)]
  else if c < 65536 then [UInt8.ofNat (224 + c / 4096), UInt8.ofNat (128 + c / 64 % 64), UInt8.ofNat (128 + c % 64)]
  else [UInt8.ofNat (240 + c / 262144), UInt8.ofNat (128 + c / 4096 % 64), UInt8.ofNat (128 + c / 64 % 64), UInt8.ofNat (128 + c % 64)]
def bytesZ (c : Int) : List UInt8 := if c < 0 then [] else bytesN c.toNat

/-- The number that so many bytes would encode. -/
def val (n : Nat) (l : List UInt8) : Nat :=
  if n = 1 then (l.getD 0 0).toNat
  else if n = 2 then (l.getD 0 0).toNat % 32 * 64 + (l.getD 1 0).toNat % 64
  else if n = 3 then ((l.getD 0 0).toNat % 16 * 64 + (l.getD 1 0).toNat % 64) * 64 + (l.getD 2 0).toNat % 64
  else (((l.getD 0 0).toNat % 8 * 64 + (l.getD 1 0).toNat % 64) * 64 + (l.getD 2 0).toNat % 64) * 64 + (l.getD 3 0).toNat % 64
def Good (n : Nat) (l : List UInt8) : Prop := n ≤ l.length ∧ bytesN (val n l) = l.take n
/-- The first sign and its length; 0 and 0, if there is none. -/
def firstN (l : List UInt8) : Nat × Nat := if l = [] ∨ ((decodeL l).1 = 65533 ∧ (decodeL l).2 < 2) then (0, 0) else decodeL l
def countZ (l : List UInt8) : Int := if validD l = true then (runeCountL l : Int) else -1

theorem u8_of {n : Nat} (h : n < 256) : (UInt8.ofNat n).toNat = n := by simp; omega
theorem eq_u8 {b : UInt8} {n : Nat} (h : n < 256) : UInt8.ofNat n = b ↔ n = b.toNat := by
  constructor
  · intro e; rw [← e, u8_of h]
  · intro e; exact u8_ext (by rw [u8_of h, e])
theorem take_2 {l : List UInt8} (h : 2 ≤ l.length) : l.take 2 = [l.getD 0 0, l.getD 1 0] := by
  match l, h with
  | a :: b :: r, _ => rfl
theorem take_3 {l : List UInt8} (h : 3 ≤ l.length) : l.take 3 = [l.getD 0 0, l.getD 1 0, l.getD 2 0] := by
  match l, h with
  | a :: b :: c :: r, _ => rfl
theorem take_4 {l : List UInt8} (h : 4 ≤ l.length) : l.take 4 = [l.getD 0 0, l.getD 1 0, l.getD 2 0, l.getD 3 0] := by
  match l, h with
  | a :: b :: c :: d :: r, _ => rfl
theorem take_1 {l : List UInt8} (h : 1 ≤ l.length) : l.take 1 = [l.getD 0 0] := by
  match l, h with
  | a :: r, _ => rfl

theorem bytesN_1 {c : Nat} {b0 : UInt8} : bytesN c = [b0] ↔ c < 128 ∧ b0.toNat = c := by
  unfold bytesN
  have := b0.toNat_lt
  repeat' split
  · simp; omega
  · simp only [List.cons.injEq, and_true]; rw [eq_u8 (by omega)]; omega
  · simp; omega
  · simp; omega
  · simp; omega
theorem bytesN_2 {c : Nat} {b0 b1 : UInt8} : bytesN c = [b0, b1] ↔ 128 ≤ c ∧ c < 2048 ∧ b0.toNat = 192 + c / 64 ∧ b1.toNat = 128 + c % 64 := by
  unfold bytesN
  repeat' split
  · simp; omega
  · simp; omega
  · simp only [List.cons.injEq, and_true]; rw [eq_u8 (by omega), eq_u8 (by omega)]; omega
  · simp; omega
  · simp; omega
theorem bytesN_3 {c : Nat} {b0 b1 b2 : UInt8} : bytesN c = [b0, b1, b2] ↔ 2048 ≤ c ∧ c < 65536 ∧ ¬ (55296 ≤ c ∧ c ≤ 57343) ∧ b0.toNat = 224 + c / 4096 ∧ b1.toNat = 128 + c / 64 % 64 ∧ b2.toNat = 128 + c % 64 := by
  unfold bytesN
  repeat' split
  · simp; omega
  · simp; omega
  · simp; omega
  · simp only [List.cons.injEq, and_true]; rw [eq_u8 (by omega), eq_u8 (by omega), eq_u8 (by omega)]; omega
  · simp; omega
theorem bytesN_4 {c : Nat} {b0 b1 b2 b3 : UInt8} : bytesN c = [b0, b1, b2, b3] ↔ 65536 ≤ c ∧ c ≤ 1114111 ∧ b0.toNat = 240 + c / 262144 ∧ b1.toNat = 128 + c / 4096 % 64 ∧ b2.toNat = 128 + c / 64 % 64 ∧ b3.toNat = 128 + c % 64 := by
  unfold bytesN
  repeat' split
  · simp; omega
  · simp; omega
  · simp; omega
  · simp; omega
  · simp only [List.cons.injEq, and_true]; rw [eq_u8 (by omega), eq_u8 (by omega), eq_u8 (by omega), eq_u8 (by omega)]; omega

section
variable (l : List UInt8)
theorem good_1 (h : 1 ≤ l.length) : Good 1 l ↔ (l.getD 0 0).toNat < 128 := by
  unfold Good
  rw [take_1 h, bytesN_1]
  simp [val, h]
theorem good_2 (h : 2 ≤ l.length) : Good 2 l ↔ (l.getD 0 0).toNat / 32 = 6 ∧ (l.getD 1 0).toNat / 64 = 2 ∧ 128 ≤ (l.getD 0 0).toNat % 32 * 64 + (l.getD 1 0).toNat % 64 := by
  unfold Good
  have h0 := (l.getD 0 0).toNat_lt; have h1 := (l.getD 1 0).toNat_lt
  rw [take_2 h, bytesN_2]
  simp only [val, show ¬ (2 = 1) by omega, if_false, if_true, h, true_and]
  omega
theorem good_3 (h : 3 ≤ l.length) : Good 3 l ↔ (l.getD 0 0).toNat / 16 = 14 ∧ (l.getD 1 0).toNat / 64 = 2 ∧ (l.getD 2 0).toNat / 64 = 2 ∧ 2048 ≤ (l.getD 0 0).toNat % 16 * 4096 + (l.getD 1 0).toNat % 64 * 64 + (l.getD 2 0).toNat % 64 ∧
    ¬ (55296 ≤ (l.getD 0 0).toNat % 16 * 4096 + (l.getD 1 0).toNat % 64 * 64 + (l.getD 2 0).toNat % 64 ∧ (l.getD 0 0).toNat % 16 * 4096 + (l.getD 1 0).toNat % 64 * 64 + (l.getD 2 0).toNat % 64 ≤ 57343) := by
  unfold Good
  have h0 := (l.getD 0 0).toNat_lt; have h1 := (l.getD 1 0).toNat_lt; have h2 := (l.getD 2 0).toNat_lt
  rw [take_3 h, bytesN_3]
  simp only [val, show ¬ (3 = 1) by omega, show ¬ (3 = 2) by omega, if_false, if_true, h, true_and]
  omega
theorem good_4 (h : 4 ≤ l.length) : Good 4 l ↔ (l.getD 0 0).toNat / 8 = 30 ∧ (l.getD 1 0).toNat / 64 = 2 ∧ (l.getD 2 0).toNat / 64 = 2 ∧ (l.getD 3 0).toNat / 64 = 2 ∧
    65536 ≤ (l.getD 0 0).toNat % 8 * 262144 + (l.getD 1 0).toNat % 64 * 4096 + (l.getD 2 0).toNat % 64 * 64 + (l.getD 3 0).toNat % 64 ∧ (l.getD 0 0).toNat % 8 * 262144 + (l.getD 1 0).toNat % 64 * 4096 + (l.getD 2 0).toNat % 64 * 64 + (l.getD 3 0).toNat % 64 ≤ 1114111 := by
  unfold Good
  have h0 := (l.getD 0 0).toNat_lt; have h1 := (l.getD 1 0).toNat_lt; have h2 := (l.getD 2 0).toNat_lt; have h3 := (l.getD 3 0).toNat_lt
  rw [take_4 h, bytesN_4]
  simp only [val, show ¬ (4 = 1) by omega, show ¬ (4 = 2) by omega, show ¬ (4 = 3) by omega, if_false, h, true_and]
  omega
end
end Go.Proofs.YtcagnlafmakebaaDoor
