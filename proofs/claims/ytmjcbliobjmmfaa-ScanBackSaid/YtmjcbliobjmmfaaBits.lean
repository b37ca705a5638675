/- The operators on bits that the layer uses, as arithmetic. -/
import Derived.Test.YtmjcbliobjmmfaaNum
import Derived.Laws.BitsAll
import Derived.Laws.BitsLemmas
namespace Go.Proofs.Ytmjcbliobjmmfaa

theorem or128 (c : Int) (h0 : 0 ≤ c) (h1 : c < 256) : bits .or .u8 c 128 = c % 128 + 128 := by
  have all : ∀ n : Fin 256, bits .or .u8 (n.val : Int) 128 = (n.val : Int) % 128 + 128 := by decide +kernel
  obtain ⟨n, rfl⟩ := Int.eq_ofNat_of_zero_le h0
  exact all ⟨n, by omega⟩
theorem not128 (c : Int) (h0 : 0 ≤ c) (h1 : c < 256) : bits .andNot .u8 c 128 = c % 128 := by
  have all : ∀ n : Fin 256, bits .andNot .u8 (n.val : Int) 128 = (n.val : Int) % 128 := by decide +kernel
  obtain ⟨n, rfl⟩ := Int.eq_ofNat_of_zero_le h0
  exact all ⟨n, by omega⟩
theorem not64 (c : Int) (h0 : 0 ≤ c) (h1 : c < 128) : bits .andNot .u8 c 64 = c % 64 := by
  have all : ∀ n : Fin 128, bits .andNot .u8 (n.val : Int) 64 = (n.val : Int) % 64 := by decide +kernel
  obtain ⟨n, rfl⟩ := Int.eq_ofNat_of_zero_le h0
  exact all ⟨n, by omega⟩
theorem and64 (c : Int) (h0 : 0 ≤ c) (h1 : c < 128) : bits .and .u8 c 64 = c - c % 64 := by
  have all : ∀ n : Fin 128, bits .and .u8 (n.val : Int) 64 = (n.val : Int) - (n.val : Int) % 64 := by decide +kernel
  obtain ⟨n, rfl⟩ := Int.eq_ofNat_of_zero_le h0
  exact all ⟨n, by omega⟩
theorem or_nat (v y : Int) (s : Nat) (hs : s ≤ 64) (h0 : 0 ≤ v) (h1 : v < 2 ^ s) :
    (((BitVec.ofInt 64 v ||| BitVec.ofInt 64 (y * 2 ^ s)).toNat : Nat) : Int) = v + y * 2 ^ s % 18446744073709551616 := by
  have hp := p2 s
  have hq := p2 (64 - s)
  have hle : (2 : Int) ^ s ≤ 2 ^ 64 := mono2 hs
  have e64 : (2 : Int) ^ 64 = 18446744073709551616 := rfl
  have es : (18446744073709551616 : Int) = 2 ^ s * 2 ^ (64 - s) := by rw [← Int.pow_add, ← e64]; congr 1; omega
  have em : y * 2 ^ s % 18446744073709551616 = 2 ^ s * (y % 2 ^ (64 - s)) := by rw [es, Int.mul_comm y]; exact Int.mul_emod_mul_of_pos _ _ hp
  have hr : 0 ≤ y % 2 ^ (64 - s) := Int.emod_nonneg _ (Int.ne_of_gt hq)
  have eB : (BitVec.ofInt 64 (y * 2 ^ s)).toNat = 2 ^ s * (y % 2 ^ (64 - s)).toNat := by
    rw [BitVec.toNat_ofInt]
    show (y * 2 ^ s % 18446744073709551616).toNat = _
    rw [em, Int.toNat_mul (Int.le_of_lt hp) hr]
    congr 1
  have eA : (BitVec.ofInt 64 v).toNat = v.toNat := by
    rw [BitVec.toNat_ofInt]
    show (v % 18446744073709551616).toNat = _
    rw [Int.emod_eq_of_lt h0 (by omega)]
  have hv : v.toNat < 2 ^ s := by
    have : ((2 ^ s : Nat) : Int) = 2 ^ s := by simp
    omega
  rw [BitVec.toNat_or, eA, eB, Nat.or_comm, ← Nat.two_pow_add_eq_or_of_lt hv, em]
  rw [Int.natCast_add, Int.natCast_mul, Int.toNat_of_nonneg hr, Int.toNat_of_nonneg h0]
  have : ((2 ^ s : Nat) : Int) = 2 ^ s := by simp
  rw [this]; omega
/-- v below 2^s beside a multiple of 2^s: 'or' is '+'. -/
theorem or_u64 (v y : Int) (s : Nat) (hs : s ≤ 64) (h0 : 0 ≤ v) (h1 : v < 2 ^ s) (hy : 0 ≤ y) (hb : v + y * 2 ^ s < 18446744073709551616) : bits .or .u64 v (y * 2 ^ s) = v + y * 2 ^ s := by
  have hz : 0 ≤ y * 2 ^ s := Int.mul_nonneg hy (Int.le_of_lt (p2 s))
  show IntKind.u64.wrap ((BitVec.ofInt 64 v ||| BitVec.ofInt 64 (y * 2 ^ s)).toNat : Nat) = v + y * 2 ^ s
  rw [or_nat v y s hs h0 h1]
  generalize y * 2 ^ s = z at *
  simp only [IntKind.wrap, IntKind.bits, IntKind.signed]
  simp
  omega
theorem or_i64 (v y : Int) (s : Nat) (hs : s ≤ 64) (h0 : 0 ≤ v) (h1 : v < 2 ^ s) (hl : -9223372036854775808 ≤ v + y * 2 ^ s) (hb : v + y * 2 ^ s < 9223372036854775808) : bits .or .i64 v (y * 2 ^ s) = v + y * 2 ^ s := by
  show IntKind.i64.wrap ((BitVec.ofInt 64 v ||| BitVec.ofInt 64 (y * 2 ^ s)).toNat : Nat) = v + y * 2 ^ s
  rw [or_nat v y s hs h0 h1, IntKind.wrap_i64]
  generalize y * 2 ^ s = z at *
  omega
end Go.Proofs.Ytmjcbliobjmmfaa

