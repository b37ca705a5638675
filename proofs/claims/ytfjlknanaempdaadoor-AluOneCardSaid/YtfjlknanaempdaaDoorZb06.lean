/- quotient, bit of creelref18. (By gen/genBt.py.) -/
import Derived.Test.YtfjlknanaempdaaDoorZb03
import Derived.Test.YtfjlknanaempdaaDoorZb05
import Derived.Deep.QuietTactic
import Derived.Deep.CutBlock
import Derived.Deep.DeepCutAuto
import Derived.WalkLawsBesides
import Derived.BigQuiet
import Derived.LoopTactic
import Derived.Deep.DeepMust
import Derived.Test.YtfjlknanaempdaaDoorZb01
import Derived.Test.YtfjlknanaempdaaDoorShelf
import Derived.Lib.Tables
import Derived.Lib.BitFns
import Derived.Lib.TrailingZeros
import Derived.Laws.BitsAllLaws
import Derived.Shelf.Spec.TrailingZeros
namespace Go.Proofs.YtfjlknanaempdaaDoor
open Go.RowKit
set_option linter.unusedVariables false
set_option maxRecDepth 100000

end Go.Proofs.YtfjlknanaempdaaDoor

/- bit, Compare of creelref18. (By gen/genBt.py.) -/
namespace Go.Proofs.YtfjlknanaempdaaDoor
open Go.RowKit
set_option linter.unusedVariables false
set_option maxRecDepth 100000

end Go.Proofs.YtfjlknanaempdaaDoor

/- Compare of creelref18. (By gen/genBt.py.) -/
namespace Go.Proofs.YtfjlknanaempdaaDoor
open Go.RowKit
set_option linter.unusedVariables false
set_option maxRecDepth 100000

end Go.Proofs.YtfjlknanaempdaaDoor

/- Two of creelref18. (By gen/genBt.py.) -/
namespace Go.Proofs.YtfjlknanaempdaaDoor
open Go.RowKit
set_option linter.unusedVariables false
set_option maxRecDepth 100000

end Go.Proofs.YtfjlknanaempdaaDoor

/- What Two makes, the program's and the reference's, of 32 bits; the page's example; the law of Two. (By gen/genAlD.py.) -/
namespace Go.Proofs.YtfjlknanaempdaaDoor
open Go.RowKit
set_option linter.unusedVariables false
set_option maxRecDepth 100000
theorem al_two {w : World} (op v u : Nat) (hv : v < 4294967296) (hu : u < 4294967296) : Calls Tryd.prog 7 #[.int .u8 op, .int .u32 v, .int .u32 u] w fun e w' => e = .returned (.tuple #[.int .u32 (twoN 32 70 106 op v u).1, .int .i64 (twoN 32 70 106 op v u).2]) ∧ w = w' := by
  by_cases hc : 70 ≤ op ∧ op ≤ 79
  · have e : twoN 32 70 106 op v u = ((cmpN 32 (op - 70) v u).toNat, 0) := by unfold twoN; rw [if_pos hc]
    rw [e]
    refine altwoCmp (op : Int) v u _ _ (by omega) ?_
    obtain ⟨k, rfl, hk⟩ : ∃ k, op = 70 + k ∧ k < 10 := ⟨op - 70, by omega, by omega⟩
    rw [show 70 + k - 70 = k by omega]
    clear e hc
    match k, hk with
    | 0, _ => exact alcmp0 v u hv hu
    | 1, _ => exact alcmp1 v u hv hu
    | 2, _ => exact alcmp2 v u hv hu
    | 3, _ => exact alcmp3 v u hv hu
    | 4, _ => exact alcmp4 v u hv hu
    | 5, _ => exact alcmp5 v u hv hu
    | 6, _ => exact alcmp6 v u hv hu
    | 7, _ => exact alcmp7 v u hv hu
    | 8, _ => exact alcmp8 v u hv hu
    | 9, _ => exact alcmp9 v u hv hu
    | k + 10, h => omega
  by_cases ha : 106 ≤ op ∧ op ≤ 120
  · have e : twoN 32 70 106 op v u = arN 32 (op - 106) v u := by unfold twoN; rw [if_neg hc, if_pos ha]
    rw [e]
    obtain ⟨k, rfl, hk⟩ : ∃ k, op = 106 + k ∧ k < 15 := ⟨op - 106, by omega, by omega⟩
    rw [show 106 + k - 106 = k by omega]
    clear e hc ha
    match k, hk with
    | 0, _ => exact altwo0 v u hv hu
    | 1, _ => exact altwo1 v u hv hu
    | 2, _ => exact altwo2 v u hv hu
    | 3, _ => exact altwo3 v u hv hu
    | 4, _ => exact altwo4 v u hv hu
    | 5, _ => exact altwo5 v u hv hu
    | 6, _ => exact altwo6 v u hv hu
    | 7, _ => exact altwo7 v u hv hu
    | 8, _ => exact altwo8 v u hv hu
    | 9, _ => exact altwo9 v u hv hu
    | 10, _ => exact altwo10 v u hv hu
    | 11, _ => exact altwo11 v u hv hu
    | 12, _ => exact altwo12 v u hv hu
    | 13, _ => exact altwo13 v u hv hu
    | 14, _ => exact altwo14 v u hv hu
    | k + 15, h => omega
  · have e : twoN 32 70 106 op v u = (0, 9) := by unfold twoN; rw [if_neg hc, if_neg ha]
    rw [e]
    exact altwoCmp (op : Int) v u _ _ (by omega) (alcmpNot (op : Int) v u hv hu (by omega))
theorem al_awake (w : World) : Calls Tryd.prog 4 #[] w fun e w' => e = .returned (.bool true) ∧ w = w' := by
  have H1 := Lib.hid (fun W => show Calls Tryd.prog 7 #[.int .u8 109, .int .u32 4294967289, .int .u32 2] W fun e w' => e = .returned (.tuple #[.int .u32 4294967293, .int .i64 0]) ∧ W = w' from al_two 109 4294967289 2 (by decide) (by decide))
  have H2 := Lib.hid (fun W => show Calls Tryd.prog 7 #[.int .u8 111, .int .u32 4294967289, .int .u32 2] W fun e w' => e = .returned (.tuple #[.int .u32 4294967295, .int .i64 0]) ∧ W = w' from al_two 111 4294967289 2 (by decide) (by decide))
  go_enter Tryd.func4, Tryd.ntmps4
  go_wp2_with (first | (go_at_call 7; (with_reducible refine (H1.out _).mono ?_); rintro e w0 ⟨rfl, rfl⟩) | (go_at_call 7; (with_reducible refine (H2.out _).mono ?_); rintro e w0 ⟨rfl, rfl⟩))
  go_ret
  exact ⟨rfl, rfl⟩
end Go.Proofs.YtfjlknanaempdaaDoor

/- The program's One of 32 bits: bits counted; the reference's likewise; the law of One. -/
namespace Go.Proofs.YtfjlknanaempdaaDoor
open Go.RowKit
set_option linter.unusedVariables false
set_option maxRecDepth 100000

/-- The table of package math/bits, in its variable. -/
def TabB (w : World) : Prop := TabAt 0 Lib.deBruijn32tab w
/-- The constant string of 256 bytes, as the program's text holds it. -/
theorem fold_pop : ({ data := ((([0, 1, 1, 2, 1, 2, 2, 3, 1, 2, 2, 3, 2, 3, 3, 4, 1, 2, 2, 3, 2, 3, 3, 4, 2, 3, 3, 4, 3, 4, 4, 5, 1, 2, 2, 3, 2, 3, 3, 4, 2, 3, 3, 4, 3, 4, 4, 5, 2, 3, 3, 4, 3, 4, 4, 5, 3, 4, 4, 5, 4, 5, 5, 6].append [1, 2, 2, 3, 2, 3, 3, 4, 2, 3, 3, 4, 3, 4, 4, 5, 2, 3, 3, 4, 3, 4, 4, 5, 3, 4, 4, 5, 4, 5, 5, 6, 2, 3, 3, 4, 3, 4, 4, 5, 3, 4, 4, 5, 4, 5, 5, 6, 3, 4, 4, 5, 4, 5, 5, 6, 4, 5, 5, 6, 5, 6, 6, 7]).append ([1, 2, 2, 3, 2, 3, 3, 4, 2, 3, 3, 4, 3, 4, 4, 5, 2, 3, 3, 4, 3, 4, 4, 5, 3, 4, 4, 5, 4, 5, 5, 6, 2, 3, 3, 4, 3, 4, 4, 5, 3, 4, 4, 5, 4, 5, 5, 6, 3, 4, 4, 5, 4, 5, 5, 6, 4, 5, 5, 6, 5, 6, 6, 7].append [2, 3, 3, 4, 3, 4, 4, 5, 3, 4, 4, 5, 4, 5, 5, 6, 3, 4, 4, 5, 4, 5, 5, 6, 4, 5, 5, 6, 5, 6, 6, 7, 3, 4, 4, 5, 4, 5, 5, 6, 4, 5, 5, 6, 5, 6, 6, 7, 4, 5, 5, 6, 5, 6, 6, 7, 5, 6, 6, 7, 6, 7, 7, 8])).toArray : Array UInt8) } : ByteArray) = Lib.pop8tab := by kernel_rfl
theorem ones_any {w : World} (v : Nat) (hv : v < 4294967296) : Calls Tryd.prog 11 #[.int .u32 v] w fun e w' => e = .returned (.int .i64 (Lib.onesCount v)) ∧ Below w.heap.size w w' := by
  have hp := pop_four hv
  obtain ⟨n3, h3⟩ : ∃ n : Nat, n = v / 16777216 := ⟨_, rfl⟩
  obtain ⟨n2, h2⟩ : ∃ n : Nat, n = v / 65536 % 256 := ⟨_, rfl⟩
  obtain ⟨n1, h1⟩ : ∃ n : Nat, n = v / 256 % 256 := ⟨_, rfl⟩
  obtain ⟨n0, h0⟩ : ∃ n : Nat, n = v % 256 := ⟨_, rfl⟩
  have a3 : (v : Int) / 16777216 = (n3 : Int) := by omega
  have a2 : bits .and .u32 ((v : Int) / 65536) 255 = (n2 : Int) := by
    rw [show (v : Int) / 65536 = ((v / 65536 : Nat) : Int) by omega, show (255 : Int) = ((255 : Nat) : Int) from rfl, u32_and_nat _ _ (by omega) (by omega), nat_mask8, h2]
  have a1 : bits .and .u32 ((v : Int) / 256) 255 = (n1 : Int) := by
    rw [show (v : Int) / 256 = ((v / 256 : Nat) : Int) by omega, show (255 : Int) = ((255 : Nat) : Int) from rfl, u32_and_nat _ _ (by omega) (by omega), nat_mask8, h1]
  have a0 : bits .and .u32 (v : Int) 255 = (n0 : Int) := by
    rw [show (255 : Int) = ((255 : Nat) : Int) from rfl, u32_and_nat _ _ (by omega) (by omega), nat_mask8, h0]
  rw [← h3, ← h2, ← h1, ← h0] at hp
  have b3 : n3 < 256 := by omega
  have b2 : n2 < 256 := by omega
  have b1 : n1 < 256 := by omega
  have b0 : n0 < 256 := by omega
  have c : ∀ n : Nat, n < 256 → ∃ p : Nat, Lib.pop8 (n : Int) = (p : Int) ∧ p ≤ 8 := fun n hn => ⟨Lib.onesCount n, Lib.pop8_eq ⟨n, hn⟩, Lib.onesCount_le8 ⟨n, hn⟩⟩
  obtain ⟨p3, c3, d3⟩ := c n3 b3
  obtain ⟨p2, c2, d2⟩ := c n2 b2
  obtain ⟨p1, c1, d1⟩ := c n1 b1
  obtain ⟨p0, c0, d0⟩ := c n0 b0
  rw [c3, c2, c1, c0] at hp
  rw [← hp]
  have q3 : 0 ≤ (n3 : Int) ∧ (n3 : Int) ≤ 255 := by omega
  have q2 : 0 ≤ (n2 : Int) ∧ (n2 : Int) ≤ 255 := by omega
  have q1 : 0 ≤ (n1 : Int) ∧ (n1 : Int) ≤ 255 := by omega
  have q0 : 0 ≤ (n0 : Int) ∧ (n0 : Int) ≤ 255 := by omega
  clear h3 h2 h1 h0 c hp
  go_enter Tryd.func11, Tryd.ntmps11
  go_wp2
  simp only [fold_pop]
  go_quiet (fail)
  go_wp2
  go_ret
  exact ⟨rfl, below_drewN (Below.refl _ _) _⟩
theorem tz_any {w : World} (v : Nat) (hv : v < 4294967296) (hT : TabB w) : Calls Tryd.prog 10 #[.int .u32 v] w fun e w' => e = .returned (.int .i64 (Lib.ctz 32 v)) ∧ w = w' := by
  by_cases hx0 : v = 0
  · subst hx0
    go_enter Tryd.func10, Tryd.ntmps10
    go_wp2
    go_ret
    exact ⟨rfl, rfl⟩
  · obtain ⟨hlow, hk⟩ := Lib.lowest_bit 32 v hx0 hv
    obtain ⟨hi, htab⟩ := Lib.deBruijn32_at _ hk
    have hcell := hT _ hi
    rw [htab] at hcell
    have key := tz32_key v _ hv hx0 hlow
    have h0 : ((v : Int) == 0) = false := by simp; omega
    obtain ⟨idx, hidx⟩ : ∃ i, i = 2 ^ Lib.ctz 32 v * 125613361 % 4294967296 / 134217728 := ⟨_, rfl⟩
    have hi2 : idx < 32 := by rw [hidx]; exact hi
    rw [← hidx] at key hcell
    generalize Lib.ctz 32 v = k at *
    clear hlow hi htab hidx hT
    go_enter Tryd.func10, Tryd.ntmps10
    go_wp2_with (simp only [key])
    go_ret
    exact ⟨rfl, rfl⟩
theorem alone0 {w : World} (v : Nat) (hv : v < 4294967296) : Calls Tryd.prog 5 #[.int .u8 69, .int .u32 v] w fun e w' => e = .returned (.tuple #[.int .u32 ((cntL (bitsL 32 v) == 0).toNat : Nat), .bool true]) ∧ w = w' := by
  have hz : ((v : Int) == 0) = (cntL (bitsL 32 v) == 0) := by
    have h := cntL_zero (bitsL 32 v)
    rw [num_of (show v < 2 ^ 32 from hv)] at h
    rw [show ((v : Int) == 0) = (v == 0) from int_beq v 0, Bool.eq_iff_iff, beq_iff_eq, beq_iff_eq]
    exact h.symm
  generalize (cntL (bitsL 32 v) == 0) = b at *
  have HT := Lib.hid (altruth b w)
  go_enter Tryd.func5, Tryd.ntmps5
  go_wp2_with (go_at_call 8; (with_reducible refine HT.out.mono ?_); rintro e w0 ⟨rfl, rfl⟩)
  go_ret2
  exact ⟨rfl, rfl⟩
theorem alone1 {w : World} (v : Nat) (hv : v < 4294967296) : Calls Tryd.prog 5 #[.int .u8 103, .int .u32 v] w fun e w' => e = .returned (.tuple #[.int .u32 (tzL (bitsL 32 v).reverse : Nat), .bool true]) ∧ w = w' := by
  have hc := clz_of (n := 32) (v := v) hv (by decide)
  have HL := Lib.hid (Tryd.bits_LeadingZeros32 (v : Int) w (by omega) (by omega))
  rw [Int.toNat_natCast] at HL
  generalize tzL (bitsL 32 v).reverse = r at *
  have e1 : (32 : Int) - (Lib.bitLen v : Int) = (r : Int) := by omega
  rw [e1] at HL
  have e2 : (r : Int) % 4294967296 = (r : Int) := by omega
  go_enter Tryd.func5, Tryd.ntmps5
  go_wp2_with (go_at_call 9; (with_reducible refine HL.out.mono ?_); rintro e w0 ⟨rfl, rfl⟩)
  go_ret2
  exact ⟨rfl, rfl⟩
theorem alone2 {w : World} (v : Nat) (hv : v < 4294967296) (hT : TabB w) : Calls Tryd.prog 5 #[.int .u8 104, .int .u32 v] w fun e w' => e = .returned (.tuple #[.int .u32 (tzL (bitsL 32 v) : Nat), .bool true]) ∧ w = w' := by
  have HL := Lib.hid (tz_any (w := w) v hv hT)
  rw [ctz_of] at HL
  have hl := tzL_le (bitsL 32 v)
  rw [bitsL_len] at hl
  generalize tzL (bitsL 32 v) = r at *
  have e2 : (r : Int) % 4294967296 = (r : Int) := by omega
  go_enter Tryd.func5, Tryd.ntmps5
  go_wp2_with (go_at_call 10; (with_reducible refine HL.out.mono ?_); rintro e w0 ⟨rfl, rfl⟩)
  go_ret2
  exact ⟨rfl, rfl⟩
theorem alone3 {w : World} (v : Nat) (hv : v < 4294967296) : Calls Tryd.prog 5 #[.int .u8 105, .int .u32 v] w fun e w' => e = .returned (.tuple #[.int .u32 (cntL (bitsL 32 v) : Nat), .bool true]) ∧ Below w.heap.size w w' := by
  have HL := Lib.hid (ones_any (w := w) v hv)
  rw [pop_of (n := 32) hv (by decide), ← cnt_pop] at HL
  have hl := cntL_le (bitsL 32 v)
  rw [bitsL_len] at hl
  generalize cntL (bitsL 32 v) = r at *
  have e2 : (r : Int) % 4294967296 = (r : Int) := by omega
  go_enter Tryd.func5, Tryd.ntmps5
  go_wp2_with (go_at_call 11; (with_reducible refine HL.out.mono ?_); rintro e w0 ⟨rfl, hb⟩; have HB := Lib.hid hb; clear hb)
  go_ret2
  exact ⟨rfl, HB.out⟩
theorem aloneNot {w : World} (op v : Nat) (h : op ≠ 69 ∧ op ≠ 103 ∧ op ≠ 104 ∧ op ≠ 105) : Calls Tryd.prog 5 #[.int .u8 op, .int .u32 v] w fun e w' => e = .returned (.tuple #[.int .u32 0, .bool false]) ∧ w = w' := by
  have d0 : ((op : Int) == 69) = false := by simp; omega
  have d1 : ((op : Int) == 103) = false := by simp; omega
  have d2 : ((op : Int) == 104) = false := by simp; omega
  have d3 : ((op : Int) == 105) = false := by simp; omega
  clear h
  go_enter Tryd.func5, Tryd.ntmps5
  go_wp2
  go_ret2
  exact ⟨rfl, rfl⟩
/-- The law, both sides told. -/
theorem alone_both {w : World} (op v x : Nat) (b : Bool) (hv : v < 4294967296) (hx : x < 4294967296) (ho : op < 256)
    (HA : Calls Tryd.prog 5 #[.int .u8 op, .int .u32 v] w fun e w' => e = .returned (.tuple #[.int .u32 x, .bool b]) ∧ Below w.heap.size w w')
    (HR : ∀ W, Calls Tryd.prog 6 #[.int .i64 op, .int .u64 v] W fun e w' => e = .returned (.tuple #[.int .u64 x, .bool b]) ∧ Below W.heap.size W w') :
    Calls Tryd.prog 3 #[.int .u8 op, .int .u32 v] w fun e w' => e = .returned (.bool true) ∧ Below w.heap.size w w' := by
  have HA1 := Lib.hid HA
  have HR1 := Lib.hid HR
  clear HA HR
  go_enter Tryd.func3, Tryd.ntmps3
  go_wp2_with (first | (go_at_call 4; (with_reducible refine (al_awake _).mono ?_); rintro e w0 ⟨rfl, rfl⟩) | (go_at_call 5; (with_reducible refine HA1.out.mono ?_); rintro e w1 ⟨rfl, hb1⟩; have HB1 := Lib.hid hb1; clear hb1) | (go_at_call 6; (with_reducible refine (HR1.out _).mono ?_); rintro e w2 ⟨rfl, hb2⟩; have HB2 := Lib.hid (HB1.out.trans (hb2.mono HB1.out.size)); clear hb2))
  go_ret
  exact ⟨rfl, HB2.out⟩
theorem alone_law (op v : Nat) (w : World) (hT : TabB w) (ho : op < 256) (hv : v < 4294967296) : Calls Tryd.prog 3 #[.int .u8 op, .int .u32 v] w fun e w' => e = .returned (.bool true) ∧ Below w.heap.size w w' := by
  have hv6 : v < 18446744073709551616 := by omega
  have bl : ∀ {a b : World}, a = b → Below a.heap.size a b := fun h => by rw [h]; exact Below.refl _ _
  have lc := cntL_le (bitsL 32 v)
  have lt := tzL_le (bitsL 32 v)
  have lr := tzL_le (bitsL 32 v).reverse
  rw [List.length_reverse, bitsL_len] at lr
  rw [bitsL_len] at lc lt
  by_cases h0 : op = 69
  · subst h0
    exact alone_both 69 v _ true hv (by cases (cntL (bitsL 32 v) == 0) <;> decide) ho ((alone0 v hv).mono fun e w' h => ⟨h.1, bl h.2⟩) (fun W => onet0 v hv6)
  by_cases h1 : op = 103
  · subst h1
    exact alone_both 103 v _ true hv (by omega) ho ((alone1 v hv).mono fun e w' h => ⟨h.1, bl h.2⟩) (fun W => onet1 v hv6)
  by_cases h2 : op = 104
  · subst h2
    exact alone_both 104 v _ true hv (by omega) ho ((alone2 v hv hT).mono fun e w' h => ⟨h.1, bl h.2⟩) (fun W => onet2 v hv6)
  by_cases h3 : op = 105
  · subst h3
    exact alone_both 105 v _ true hv (by omega) ho (alone3 v hv) (fun W => onet3 v hv6)
  · exact alone_both op v 0 false hv (by decide) ho ((aloneNot op v ⟨h0, h1, h2, h3⟩).mono fun e w' h => ⟨h.1, bl h.2⟩) (fun W => oneNot (op : Int) v hv6 (by omega) (by omega) (by omega) (by omega))
end Go.Proofs.YtfjlknanaempdaaDoor
