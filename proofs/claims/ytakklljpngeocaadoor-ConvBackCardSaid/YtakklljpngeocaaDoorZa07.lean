/- An argument that is a slice of bytes, opened; by itself. -/
import Derived.Test.YtakklljpngeocaaDoorZa01
import Derived.ProofKit
import Derived.OpenShut
import Derived.ShutString
import Derived.ChangeOld
import Derived.Deep.Slices
import Derived.Test.YtakklljpngeocaaDoorZa06
namespace Go.Proofs.YtakklljpngeocaaDoor
open Go.ChangeShapes Go.WideShapes Go.ChangeAt Go.RowKit
set_option linter.unusedVariables false
section
variable {H : Type} {enc : TypeId × Value → H} {W : World} {sp : Nat → Bool}
theorem intsV_lie {k : IntKind} {a : Addr} {len : Nat} {zs : List Int} (hle : len ≤ zs.length) (hcell : ∀ i, i < zs.length → W.cell? (a.add i) = some (.int k (zs.getD i 0))) :
    ∀ j v, ((zs.take len).map (Value.int k))[j]? = some v → ∃ b off, some a = some (⟨b, off, none⟩ : Addr) ∧ b < W.heap.size ∧ W.cell? ⟨b, off + j, none⟩ = some v := by
  intro i v hv
  have hi : i < len := by
    have := (List.getElem?_eq_some_iff.1 hv).1
    rw [List.length_map, List.length_take] at this
    omega
  obtain ⟨b, off, spot⟩ := a
  have hsp : spot = none := by
    have h0 := hcell 0 (by omega)
    simpa [Addr.add] using World.cell?_spot h0
  subst hsp
  have hc := hcell i (by omega)
  rw [Go.WideShapes.add_plain] at hc
  refine ⟨b, off, rfl, block_lt_of_cell hc, ?_⟩
  rw [hc, ← hv, List.getElem?_map, List.getElem?_take, if_pos hi, List.getElem?_eq_getElem (by omega : i < zs.length)]
  simp [List.getD, List.getElem?_eq_getElem (by omega : i < zs.length)]
theorem numsV_ex : ∀ r : List Int, (∀ c ∈ r, 0 ≤ c ∧ c ≤ 255) → ∃ l : List UInt8, nums l = r
  | [], _ => ⟨[], rfl⟩
  | c :: r, h => by
    obtain ⟨l, hl⟩ := numsV_ex r (fun d hd => h d (List.mem_cons_of_mem _ hd))
    have hc := h c (by simp)
    have e : (((UInt8.ofNat c.toNat).toNat : Nat) : Int) = c := by rw [UInt8.toNat_ofNat', show (2 : Nat) ^ 8 = 256 by decide]; omega
    refine ⟨UInt8.ofNat c.toNat :: l, ?_⟩
    unfold nums at hl ⊢
    rw [List.map_cons, hl, e]
theorem open_bytesV {A : Option Addr} {len cap : Nat} {d : DataW H} {p : List MemPlace} (h : DataW.Trod enc Tryd.prog W 0 sp true 29 (.slice A len cap) d p) :
    ∃ l : List UInt8, l.length = len ∧ Lies W W.heap.size A (cells (nums l)) ∧ (A = none → cap = 0) ∧ len ≤ cap ∧ cap ≤ maxLen := by
  obtain ⟨fuel, hf⟩ := h
  rcases open_ints Tryd.underlying29 Tryd.underlying5 (by kernel_rfl) hf with ⟨hcs, _⟩ | ⟨a, l, c, zs, hcs, _, hl, hm, hz, _, hcell, hwf⟩
  · simp [Value.cells] at hcs
    obtain ⟨rfl, rfl, rfl⟩ := hcs
    exact ⟨[], rfl, Lies.nil, fun _ => rfl, Nat.le_refl _, Nat.zero_le _⟩
  · simp [Value.cells] at hcs
    obtain ⟨rfl, rfl, rfl⟩ := hcs
    have hle : len ≤ zs.length := by rw [hz]; split <;> omega
    have hlen : (zs.take len).length = len := by rw [List.length_take]; omega
    obtain ⟨bs, hbs⟩ := numsV_ex (zs.take len) (fun d hd => by
      have w0 := hwf d (List.mem_of_mem_take hd)
      simpa [Lit.wf, IntKind.min, IntKind.max, IntKind.signed, IntKind.bits] using w0)
    have hbl : bs.length = len := by rw [← nums_length, hbs, hlen]
    refine ⟨bs, hbl, ?_, (fun e => by cases e), by omega, hm⟩
    rw [hbs]
    exact intsV_lie hle hcell
end
end Go.Proofs.YtakklljpngeocaaDoor

/- The law ConvBack. (By gen/genCpG.py.) -/
namespace Go.Proofs.YtakklljpngeocaaDoor
open Go.RowKit
set_option linter.unusedVariables false
set_option maxRecDepth 100000

theorem numB_bytN (k x : Nat) : numB (bytN k x) = x % 256 ^ k := by
  induction k with
  | zero => simp [bytN, numB, Nat.mod_one]
  | succ k ih =>
    have h : (bytN (k + 1) x)[k]? = some (UInt8.ofNat (x / 256 ^ k)) := by
      show (bytN k x ++ [UInt8.ofNat (x / 256 ^ k)])[k]? = _
      rw [List.getElem?_append_right (by rw [bytN_len]; omega), bytN_len]
      simp
    have hs := numB_snoc h
    rw [List.take_of_length_le (by rw [bytN_len]; omega)] at hs
    have ht : (bytN (k + 1) x).take k = bytN k x := by
      show (bytN k x ++ [UInt8.ofNat (x / 256 ^ k)]).take k = _
      rw [List.take_append_of_le_length (by rw [bytN_len]; omega), List.take_of_length_le (by rw [bytN_len]; omega)]
    have e : x % 256 ^ (k + 1) = x % 256 ^ k + 256 ^ k * (x / 256 ^ k % 256) := by rw [Nat.pow_succ, Nat.mod_mul]
    rw [hs, ht, ih, UInt8.toNat_ofNat', e, show (2 : Nat) ^ 8 = 256 by decide, Nat.mul_comm (256 ^ k)]
theorem extN_mod (x n : Nat) (h1 : 1 ≤ n) : extN (x % 256 ^ n) n = extN x n := by
  unfold extN
  rw [pow256, Nat.mod_mod]
  have e : 2 ^ (8 * n) = 2 ^ (8 * n - 1) * 2 := by rw [← Nat.pow_succ]; congr 1; omega
  rw [show x % 2 ^ (8 * n) % 2 ^ (8 * n - 1) = x % 2 ^ (8 * n - 1) by rw [e]; exact Nat.mod_mul_right_mod _ _ _]
/-- Three constant lists of bytes. -/
theorem three_made (w : World) (a b c : Array Value) : Whole (((w.alloc (.cells a 5)).alloc (.cells b 5)).alloc (.cells c 5)) w.heap.size 5 a ∧ Whole (((w.alloc (.cells a 5)).alloc (.cells b 5)).alloc (.cells c 5)) (w.heap.size + 1) 5 b ∧ Whole (((w.alloc (.cells a 5)).alloc (.cells b 5)).alloc (.cells c 5)) (w.heap.size + 2) 5 c := by
  have h0 := Whole.made w 5 a
  have h1 := Whole.made (w.alloc (.cells a 5)) 5 b
  have h2 := Whole.made ((w.alloc (.cells a 5)).alloc (.cells b 5)) 5 c
  rw [size_box] at h1 h2
  rw [size_box] at h2
  exact ⟨(h0.alloc _).alloc _, h1.alloc _, h2⟩
theorem three_below (w : World) (a b c : Obj) : Below w.heap.size w (((w.alloc a).alloc b).alloc c) := (((Below.refl _ _).alloc (Nat.le_refl _) _).alloc (by simp) _).alloc (by simp; omega) _
set_option maxHeartbeats 4000000 in
theorem convBack_0 {w : World} (which x lo hi hi2 : Nat) (l : List UInt8) (hx : x < 18446744073709551616) (hw : which ≤ 255) (hk : which % 7 = 0) (hl : l.length = 4) (hT : TabA w) (hlo : lo < 18446744073709551616) (hhi : hi < 18446744073709551616)
    (q0 : IntKind.u64.wrap ((x : Int) * 4294967296) / 4294967296 = (lo : Int)) (q1 : IntKind.u64.wrap (wrap64 (IntKind.u64.wrap ((x : Int) * 4294967296)) / 4294967296) = (hi : Int)) (q2 : bits .and .u64 (hi : Int) 4294967295 = (hi2 : Int))
    (hY : ∀ W, TabA W → Calls Tryd.prog 17 #[.int .u8 54, .int .u64 x] W fun e w' => ∃ v, e = .returned (.tuple #[v, .bool true]) ∧ Row w' W.heap.size v l ∧ Below W.heap.size W w')
    (hR : ∀ W A c B, l.length ≤ c → Lies W B A (cells (nums l)) → B ≤ W.heap.size → TabA W → Calls Tryd.prog 15 #[.int .u8 40, .slice A l.length c] W fun e w' => e = .returned (.tuple #[valV 127 lo, .bool true]) ∧ Below W.heap.size W w')
    (hS : ∀ W A c B, l.length ≤ c → Lies W B A (cells (nums l)) → B ≤ W.heap.size → TabA W → Calls Tryd.prog 15 #[.int .u8 40, .slice A l.length c] W fun e w' => e = .returned (.tuple #[valV 127 hi2, .bool true]) ∧ Below W.heap.size W w') :
    Calls Tryd.prog 5 #[.int .u64 x, .int .u8 which] w fun e w' => e = .returned (.bool true) ∧ Below w.heap.size w w' := by
  have HT := Lib.hid hT
  have HY := Lib.hid hY
  have HR := Lib.hid hR
  have HS := Lib.hid hS
  rw [hl] at HR HS
  have ek : Int.tmod (which : Int) 7 = 0 := by rw [Int.tmod_eq_emod_of_nonneg (by omega)]; omega
  have ek2 : (which : Int) % 7 = 0 := by omega
  clear hT hY hR hS
  go_enter Tryd.func5, Tryd.ntmps5
  go_wp2_with (first
    | (go_at_call 6; (with_reducible refine (convAwake _ HT.out).mono ?_); rintro e w1 ⟨rfl, hb1⟩; have HB1 := Lib.hid (hb1.trans ((three_below w1 (.cells #[.int .u8 54, .int .u8 55, .int .u8 58, .int .u8 59, .int .u8 60, .int .u8 61, .int .u8 62] 5) (.cells #[.int .u8 40, .int .u8 41, .int .u8 45, .int .u8 47, .int .u8 49, .int .u8 51, .int .u8 53] 5) (.cells #[.int .u8 40, .int .u8 41, .int .u8 44, .int .u8 46, .int .u8 48, .int .u8 50, .int .u8 52] 5)).mono hb1.size)); have HQ := Lib.hid (three_made w1 #[.int .u8 54, .int .u8 55, .int .u8 58, .int .u8 59, .int .u8 60, .int .u8 61, .int .u8 62] #[.int .u8 40, .int .u8 41, .int .u8 45, .int .u8 47, .int .u8 49, .int .u8 51, .int .u8 53] #[.int .u8 40, .int .u8 41, .int .u8 44, .int .u8 46, .int .u8 48, .int .u8 50, .int .u8 52]); clear hb1; have c0 := HQ.out.1.cell 0; simp only [List.getElem?_toArray, List.getElem?_cons_zero, List.getElem?_cons_succ] at c0)
    | (go_at_call 17; (with_reducible refine (HY.out _ (HT.out.below HB1.out)).mono ?_); rintro e w2 ⟨v2, rfl, hr2, hb2⟩; obtain ⟨A2, n2, rfl, hc2, hl2⟩ := hr2.liesC; have HL2 := Lib.hid hl2; have HC2 := Lib.hid hc2; clear hc2; have HB2 := Lib.hid (HB1.out.trans (hb2.mono HB1.out.size)); have HQ2 := Lib.hid (And.intro (HQ.out.2.1.below hb2) (HQ.out.2.2.below hb2)); have c2 := HQ2.out.1.cell 0; simp only [List.getElem?_toArray, List.getElem?_cons_zero, List.getElem?_cons_succ] at c2; clear hr2 hl2 hb2)
    | (go_at_call 15; (with_reducible refine (HR.out _ _ _ _ (by have := HC2.out; omega) HL2.out (Nat.le_refl _) (HT.out.below HB2.out)).mono ?_); rintro e w3 ⟨rfl, hb3⟩; have HL3 := Lib.hid (HL2.out.below hb3 (Nat.le_refl _)); have HX3 := Lib.hid (Whole.made w3 25 #[.int .u8 127, .int .u64 lo]); have h23 := hb3.size; have HQ3 := Lib.hid ((HQ2.out.2.below hb3).alloc (.cells #[.int .u8 127, .int .u64 lo] 25)); have c3 := HQ3.out.cell 0; simp only [List.getElem?_toArray, List.getElem?_cons_zero, List.getElem?_cons_succ] at c3; have HB3 := Lib.hid ((HB2.out.trans (hb3.mono HB2.out.size)).alloc (HB2.out.trans (hb3.mono HB2.out.size)).size (.cells #[.int .u8 127, .int .u64 lo] 25)); clear hb3)
    | (go_at_call 15; (with_reducible refine (HS.out _ _ _ _ (by have := HC2.out; omega) (HL3.out.below ((Below.refl _ _).alloc (Nat.le_refl _) (.cells #[.int .u8 127, .int .u64 lo] 25)) h23) (by simp; omega) (HT.out.below HB3.out)).mono ?_); rintro e w4 ⟨rfl, hb4⟩; have HX4 := Lib.hid (Whole.made w4 25 #[.int .u8 127, .int .u64 hi2]); have HY4 := Lib.hid ((HX3.out.below hb4).alloc (.cells #[.int .u8 127, .int .u64 hi2] 25)); have x0 := HY4.out.cell 0; have x1 := HY4.out.cell 1; have y1 := HX4.out.cell 1; simp only [List.getElem?_toArray, List.getElem?_cons_zero, List.getElem?_cons_succ] at x0 x1 y1; have HB4 := Lib.hid ((HB3.out.trans (hb4.mono HB3.out.size)).alloc (HB3.out.trans (hb4.mono HB3.out.size)).size (.cells #[.int .u8 127, .int .u64 hi2] 25)); clear hb4))
  go_ret
  exact ⟨rfl, HB4.out⟩
set_option maxHeartbeats 4000000 in
theorem convBack_1 {w : World} (which x : Nat) (l : List UInt8) (hx : x < 18446744073709551616) (hw : which ≤ 255) (hk : which % 7 = 1) (hl : l.length = 8) (hT : TabA w)
    (q1 : IntKind.u64.wrap (wrap64 (x : Int)) = (x : Int))
    (hY : ∀ W, TabA W → Calls Tryd.prog 17 #[.int .u8 55, .int .u64 x] W fun e w' => ∃ v, e = .returned (.tuple #[v, .bool true]) ∧ Row w' W.heap.size v l ∧ Below W.heap.size W w')
    (hR : ∀ W A c B, l.length ≤ c → Lies W B A (cells (nums l)) → B ≤ W.heap.size → TabA W → Calls Tryd.prog 15 #[.int .u8 41, .slice A l.length c] W fun e w' => e = .returned (.tuple #[valV 126 x, .bool true]) ∧ Below W.heap.size W w')
    (hS : ∀ W A c B, l.length ≤ c → Lies W B A (cells (nums l)) → B ≤ W.heap.size → TabA W → Calls Tryd.prog 15 #[.int .u8 41, .slice A l.length c] W fun e w' => e = .returned (.tuple #[valV 126 x, .bool true]) ∧ Below W.heap.size W w') :
    Calls Tryd.prog 5 #[.int .u64 x, .int .u8 which] w fun e w' => e = .returned (.bool true) ∧ Below w.heap.size w w' := by
  have HT := Lib.hid hT
  have HY := Lib.hid hY
  have HR := Lib.hid hR
  have HS := Lib.hid hS
  rw [hl] at HR HS
  have ek : Int.tmod (which : Int) 7 = 1 := by rw [Int.tmod_eq_emod_of_nonneg (by omega)]; omega
  have ek2 : (which : Int) % 7 = 1 := by omega
  clear hT hY hR hS
  go_enter Tryd.func5, Tryd.ntmps5
  go_wp2_with (first
    | (go_at_call 6; (with_reducible refine (convAwake _ HT.out).mono ?_); rintro e w1 ⟨rfl, hb1⟩; have HB1 := Lib.hid (hb1.trans ((three_below w1 (.cells #[.int .u8 54, .int .u8 55, .int .u8 58, .int .u8 59, .int .u8 60, .int .u8 61, .int .u8 62] 5) (.cells #[.int .u8 40, .int .u8 41, .int .u8 45, .int .u8 47, .int .u8 49, .int .u8 51, .int .u8 53] 5) (.cells #[.int .u8 40, .int .u8 41, .int .u8 44, .int .u8 46, .int .u8 48, .int .u8 50, .int .u8 52] 5)).mono hb1.size)); have HQ := Lib.hid (three_made w1 #[.int .u8 54, .int .u8 55, .int .u8 58, .int .u8 59, .int .u8 60, .int .u8 61, .int .u8 62] #[.int .u8 40, .int .u8 41, .int .u8 45, .int .u8 47, .int .u8 49, .int .u8 51, .int .u8 53] #[.int .u8 40, .int .u8 41, .int .u8 44, .int .u8 46, .int .u8 48, .int .u8 50, .int .u8 52]); clear hb1; have c0 := HQ.out.1.cell 1; simp only [List.getElem?_toArray, List.getElem?_cons_zero, List.getElem?_cons_succ] at c0)
    | (go_at_call 17; (with_reducible refine (HY.out _ (HT.out.below HB1.out)).mono ?_); rintro e w2 ⟨v2, rfl, hr2, hb2⟩; obtain ⟨A2, n2, rfl, hc2, hl2⟩ := hr2.liesC; have HL2 := Lib.hid hl2; have HC2 := Lib.hid hc2; clear hc2; have HB2 := Lib.hid (HB1.out.trans (hb2.mono HB1.out.size)); have HQ2 := Lib.hid (And.intro (HQ.out.2.1.below hb2) (HQ.out.2.2.below hb2)); have c2 := HQ2.out.1.cell 1; simp only [List.getElem?_toArray, List.getElem?_cons_zero, List.getElem?_cons_succ] at c2; clear hr2 hl2 hb2)
    | (go_at_call 15; (with_reducible refine (HR.out _ _ _ _ (by have := HC2.out; omega) HL2.out (Nat.le_refl _) (HT.out.below HB2.out)).mono ?_); rintro e w3 ⟨rfl, hb3⟩; have HL3 := Lib.hid (HL2.out.below hb3 (Nat.le_refl _)); have HX3 := Lib.hid (Whole.made w3 25 #[.int .u8 126, .int .u64 x]); have h23 := hb3.size; have HQ3 := Lib.hid ((HQ2.out.2.below hb3).alloc (.cells #[.int .u8 126, .int .u64 x] 25)); have c3 := HQ3.out.cell 1; simp only [List.getElem?_toArray, List.getElem?_cons_zero, List.getElem?_cons_succ] at c3; have HB3 := Lib.hid ((HB2.out.trans (hb3.mono HB2.out.size)).alloc (HB2.out.trans (hb3.mono HB2.out.size)).size (.cells #[.int .u8 126, .int .u64 x] 25)); clear hb3)
    | (go_at_call 15; (with_reducible refine (HS.out _ _ _ _ (by have := HC2.out; omega) (HL3.out.below ((Below.refl _ _).alloc (Nat.le_refl _) (.cells #[.int .u8 126, .int .u64 x] 25)) h23) (by simp; omega) (HT.out.below HB3.out)).mono ?_); rintro e w4 ⟨rfl, hb4⟩; have HX4 := Lib.hid (Whole.made w4 25 #[.int .u8 126, .int .u64 x]); have HY4 := Lib.hid ((HX3.out.below hb4).alloc (.cells #[.int .u8 126, .int .u64 x] 25)); have x0 := HY4.out.cell 0; have x1 := HY4.out.cell 1; have y1 := HX4.out.cell 1; simp only [List.getElem?_toArray, List.getElem?_cons_zero, List.getElem?_cons_succ] at x0 x1 y1; have HB4 := Lib.hid ((HB3.out.trans (hb4.mono HB3.out.size)).alloc (HB3.out.trans (hb4.mono HB3.out.size)).size (.cells #[.int .u8 126, .int .u64 x] 25)); clear hb4))
  go_ret
  exact ⟨rfl, HB4.out⟩
set_option maxHeartbeats 4000000 in
theorem convBack_2 {w : World} (which x lo hi hi2 : Nat) (l : List UInt8) (hx : x < 18446744073709551616) (hw : which ≤ 255) (hk : which % 7 = 2) (hl : l.length = 1) (hT : TabA w) (hlo : lo < 18446744073709551616) (hhi : hi < 18446744073709551616)
    (q0 : IntKind.u64.wrap ((x : Int) * 72057594037927936) / 72057594037927936 = (lo : Int)) (q1 : IntKind.u64.wrap (wrap64 (IntKind.u64.wrap ((x : Int) * 72057594037927936)) / 72057594037927936) = (hi : Int)) (q2 : bits .and .u64 (hi : Int) 4294967295 = (hi2 : Int))
    (hY : ∀ W, TabA W → Calls Tryd.prog 17 #[.int .u8 58, .int .u64 x] W fun e w' => ∃ v, e = .returned (.tuple #[v, .bool true]) ∧ Row w' W.heap.size v l ∧ Below W.heap.size W w')
    (hR : ∀ W A c B, l.length ≤ c → Lies W B A (cells (nums l)) → B ≤ W.heap.size → TabA W → Calls Tryd.prog 15 #[.int .u8 45, .slice A l.length c] W fun e w' => e = .returned (.tuple #[valV 127 lo, .bool true]) ∧ Below W.heap.size W w')
    (hS : ∀ W A c B, l.length ≤ c → Lies W B A (cells (nums l)) → B ≤ W.heap.size → TabA W → Calls Tryd.prog 15 #[.int .u8 44, .slice A l.length c] W fun e w' => e = .returned (.tuple #[valV 127 hi2, .bool true]) ∧ Below W.heap.size W w') :
    Calls Tryd.prog 5 #[.int .u64 x, .int .u8 which] w fun e w' => e = .returned (.bool true) ∧ Below w.heap.size w w' := by
  have HT := Lib.hid hT
  have HY := Lib.hid hY
  have HR := Lib.hid hR
  have HS := Lib.hid hS
  rw [hl] at HR HS
  have ek : Int.tmod (which : Int) 7 = 2 := by rw [Int.tmod_eq_emod_of_nonneg (by omega)]; omega
  have ek2 : (which : Int) % 7 = 2 := by omega
  clear hT hY hR hS
  go_enter Tryd.func5, Tryd.ntmps5
  go_wp2_with (first
    | (go_at_call 6; (with_reducible refine (convAwake _ HT.out).mono ?_); rintro e w1 ⟨rfl, hb1⟩; have HB1 := Lib.hid (hb1.trans ((three_below w1 (.cells #[.int .u8 54, .int .u8 55, .int .u8 58, .int .u8 59, .int .u8 60, .int .u8 61, .int .u8 62] 5) (.cells #[.int .u8 40, .int .u8 41, .int .u8 45, .int .u8 47, .int .u8 49, .int .u8 51, .int .u8 53] 5) (.cells #[.int .u8 40, .int .u8 41, .int .u8 44, .int .u8 46, .int .u8 48, .int .u8 50, .int .u8 52] 5)).mono hb1.size)); have HQ := Lib.hid (three_made w1 #[.int .u8 54, .int .u8 55, .int .u8 58, .int .u8 59, .int .u8 60, .int .u8 61, .int .u8 62] #[.int .u8 40, .int .u8 41, .int .u8 45, .int .u8 47, .int .u8 49, .int .u8 51, .int .u8 53] #[.int .u8 40, .int .u8 41, .int .u8 44, .int .u8 46, .int .u8 48, .int .u8 50, .int .u8 52]); clear hb1; have c0 := HQ.out.1.cell 2; simp only [List.getElem?_toArray, List.getElem?_cons_zero, List.getElem?_cons_succ] at c0)
    | (go_at_call 17; (with_reducible refine (HY.out _ (HT.out.below HB1.out)).mono ?_); rintro e w2 ⟨v2, rfl, hr2, hb2⟩; obtain ⟨A2, n2, rfl, hc2, hl2⟩ := hr2.liesC; have HL2 := Lib.hid hl2; have HC2 := Lib.hid hc2; clear hc2; have HB2 := Lib.hid (HB1.out.trans (hb2.mono HB1.out.size)); have HQ2 := Lib.hid (And.intro (HQ.out.2.1.below hb2) (HQ.out.2.2.below hb2)); have c2 := HQ2.out.1.cell 2; simp only [List.getElem?_toArray, List.getElem?_cons_zero, List.getElem?_cons_succ] at c2; clear hr2 hl2 hb2)
    | (go_at_call 15; (with_reducible refine (HR.out _ _ _ _ (by have := HC2.out; omega) HL2.out (Nat.le_refl _) (HT.out.below HB2.out)).mono ?_); rintro e w3 ⟨rfl, hb3⟩; have HL3 := Lib.hid (HL2.out.below hb3 (Nat.le_refl _)); have HX3 := Lib.hid (Whole.made w3 25 #[.int .u8 127, .int .u64 lo]); have h23 := hb3.size; have HQ3 := Lib.hid ((HQ2.out.2.below hb3).alloc (.cells #[.int .u8 127, .int .u64 lo] 25)); have c3 := HQ3.out.cell 2; simp only [List.getElem?_toArray, List.getElem?_cons_zero, List.getElem?_cons_succ] at c3; have HB3 := Lib.hid ((HB2.out.trans (hb3.mono HB2.out.size)).alloc (HB2.out.trans (hb3.mono HB2.out.size)).size (.cells #[.int .u8 127, .int .u64 lo] 25)); clear hb3)
    | (go_at_call 15; (with_reducible refine (HS.out _ _ _ _ (by have := HC2.out; omega) (HL3.out.below ((Below.refl _ _).alloc (Nat.le_refl _) (.cells #[.int .u8 127, .int .u64 lo] 25)) h23) (by simp; omega) (HT.out.below HB3.out)).mono ?_); rintro e w4 ⟨rfl, hb4⟩; have HX4 := Lib.hid (Whole.made w4 25 #[.int .u8 127, .int .u64 hi2]); have HY4 := Lib.hid ((HX3.out.below hb4).alloc (.cells #[.int .u8 127, .int .u64 hi2] 25)); have x0 := HY4.out.cell 0; have x1 := HY4.out.cell 1; have y1 := HX4.out.cell 1; simp only [List.getElem?_toArray, List.getElem?_cons_zero, List.getElem?_cons_succ] at x0 x1 y1; have HB4 := Lib.hid ((HB3.out.trans (hb4.mono HB3.out.size)).alloc (HB3.out.trans (hb4.mono HB3.out.size)).size (.cells #[.int .u8 127, .int .u64 hi2] 25)); clear hb4))
  go_ret
  exact ⟨rfl, HB4.out⟩
set_option maxHeartbeats 4000000 in
theorem convBack_3 {w : World} (which x lo hi hi2 : Nat) (l : List UInt8) (hx : x < 18446744073709551616) (hw : which ≤ 255) (hk : which % 7 = 3) (hl : l.length = 2) (hT : TabA w) (hlo : lo < 18446744073709551616) (hhi : hi < 18446744073709551616)
    (q0 : IntKind.u64.wrap ((x : Int) * 281474976710656) / 281474976710656 = (lo : Int)) (q1 : IntKind.u64.wrap (wrap64 (IntKind.u64.wrap ((x : Int) * 281474976710656)) / 281474976710656) = (hi : Int)) (q2 : bits .and .u64 (hi : Int) 4294967295 = (hi2 : Int))
    (hY : ∀ W, TabA W → Calls Tryd.prog 17 #[.int .u8 59, .int .u64 x] W fun e w' => ∃ v, e = .returned (.tuple #[v, .bool true]) ∧ Row w' W.heap.size v l ∧ Below W.heap.size W w')
    (hR : ∀ W A c B, l.length ≤ c → Lies W B A (cells (nums l)) → B ≤ W.heap.size → TabA W → Calls Tryd.prog 15 #[.int .u8 47, .slice A l.length c] W fun e w' => e = .returned (.tuple #[valV 127 lo, .bool true]) ∧ Below W.heap.size W w')
    (hS : ∀ W A c B, l.length ≤ c → Lies W B A (cells (nums l)) → B ≤ W.heap.size → TabA W → Calls Tryd.prog 15 #[.int .u8 46, .slice A l.length c] W fun e w' => e = .returned (.tuple #[valV 127 hi2, .bool true]) ∧ Below W.heap.size W w') :
    Calls Tryd.prog 5 #[.int .u64 x, .int .u8 which] w fun e w' => e = .returned (.bool true) ∧ Below w.heap.size w w' := by
  have HT := Lib.hid hT
  have HY := Lib.hid hY
  have HR := Lib.hid hR
  have HS := Lib.hid hS
  rw [hl] at HR HS
  have ek : Int.tmod (which : Int) 7 = 3 := by rw [Int.tmod_eq_emod_of_nonneg (by omega)]; omega
  have ek2 : (which : Int) % 7 = 3 := by omega
  clear hT hY hR hS
  go_enter Tryd.func5, Tryd.ntmps5
  go_wp2_with (first
    | (go_at_call 6; (with_reducible refine (convAwake _ HT.out).mono ?_); rintro e w1 ⟨rfl, hb1⟩; have HB1 := Lib.hid (hb1.trans ((three_below w1 (.cells #[.int .u8 54, .int .u8 55, .int .u8 58, .int .u8 59, .int .u8 60, .int .u8 61, .int .u8 62] 5) (.cells #[.int .u8 40, .int .u8 41, .int .u8 45, .int .u8 47, .int .u8 49, .int .u8 51, .int .u8 53] 5) (.cells #[.int .u8 40, .int .u8 41, .int .u8 44, .int .u8 46, .int .u8 48, .int .u8 50, .int .u8 52] 5)).mono hb1.size)); have HQ := Lib.hid (three_made w1 #[.int .u8 54, .int .u8 55, .int .u8 58, .int .u8 59, .int .u8 60, .int .u8 61, .int .u8 62] #[.int .u8 40, .int .u8 41, .int .u8 45, .int .u8 47, .int .u8 49, .int .u8 51, .int .u8 53] #[.int .u8 40, .int .u8 41, .int .u8 44, .int .u8 46, .int .u8 48, .int .u8 50, .int .u8 52]); clear hb1; have c0 := HQ.out.1.cell 3; simp only [List.getElem?_toArray, List.getElem?_cons_zero, List.getElem?_cons_succ] at c0)
    | (go_at_call 17; (with_reducible refine (HY.out _ (HT.out.below HB1.out)).mono ?_); rintro e w2 ⟨v2, rfl, hr2, hb2⟩; obtain ⟨A2, n2, rfl, hc2, hl2⟩ := hr2.liesC; have HL2 := Lib.hid hl2; have HC2 := Lib.hid hc2; clear hc2; have HB2 := Lib.hid (HB1.out.trans (hb2.mono HB1.out.size)); have HQ2 := Lib.hid (And.intro (HQ.out.2.1.below hb2) (HQ.out.2.2.below hb2)); have c2 := HQ2.out.1.cell 3; simp only [List.getElem?_toArray, List.getElem?_cons_zero, List.getElem?_cons_succ] at c2; clear hr2 hl2 hb2)
    | (go_at_call 15; (with_reducible refine (HR.out _ _ _ _ (by have := HC2.out; omega) HL2.out (Nat.le_refl _) (HT.out.below HB2.out)).mono ?_); rintro e w3 ⟨rfl, hb3⟩; have HL3 := Lib.hid (HL2.out.below hb3 (Nat.le_refl _)); have HX3 := Lib.hid (Whole.made w3 25 #[.int .u8 127, .int .u64 lo]); have h23 := hb3.size; have HQ3 := Lib.hid ((HQ2.out.2.below hb3).alloc (.cells #[.int .u8 127, .int .u64 lo] 25)); have c3 := HQ3.out.cell 3; simp only [List.getElem?_toArray, List.getElem?_cons_zero, List.getElem?_cons_succ] at c3; have HB3 := Lib.hid ((HB2.out.trans (hb3.mono HB2.out.size)).alloc (HB2.out.trans (hb3.mono HB2.out.size)).size (.cells #[.int .u8 127, .int .u64 lo] 25)); clear hb3)
    | (go_at_call 15; (with_reducible refine (HS.out _ _ _ _ (by have := HC2.out; omega) (HL3.out.below ((Below.refl _ _).alloc (Nat.le_refl _) (.cells #[.int .u8 127, .int .u64 lo] 25)) h23) (by simp; omega) (HT.out.below HB3.out)).mono ?_); rintro e w4 ⟨rfl, hb4⟩; have HX4 := Lib.hid (Whole.made w4 25 #[.int .u8 127, .int .u64 hi2]); have HY4 := Lib.hid ((HX3.out.below hb4).alloc (.cells #[.int .u8 127, .int .u64 hi2] 25)); have x0 := HY4.out.cell 0; have x1 := HY4.out.cell 1; have y1 := HX4.out.cell 1; simp only [List.getElem?_toArray, List.getElem?_cons_zero, List.getElem?_cons_succ] at x0 x1 y1; have HB4 := Lib.hid ((HB3.out.trans (hb4.mono HB3.out.size)).alloc (HB3.out.trans (hb4.mono HB3.out.size)).size (.cells #[.int .u8 127, .int .u64 hi2] 25)); clear hb4))
  go_ret
  exact ⟨rfl, HB4.out⟩
set_option maxHeartbeats 4000000 in
theorem convBack_4 {w : World} (which x lo hi hi2 : Nat) (l : List UInt8) (hx : x < 18446744073709551616) (hw : which ≤ 255) (hk : which % 7 = 4) (hl : l.length = 1) (hT : TabA w) (hlo : lo < 18446744073709551616) (hhi : hi < 18446744073709551616)
    (q0 : IntKind.u64.wrap ((x : Int) * 72057594037927936) / 72057594037927936 = (lo : Int)) (q1 : IntKind.u64.wrap (wrap64 (IntKind.u64.wrap ((x : Int) * 72057594037927936)) / 72057594037927936) = (hi : Int))
    (hY : ∀ W, TabA W → Calls Tryd.prog 17 #[.int .u8 60, .int .u64 x] W fun e w' => ∃ v, e = .returned (.tuple #[v, .bool true]) ∧ Row w' W.heap.size v l ∧ Below W.heap.size W w')
    (hR : ∀ W A c B, l.length ≤ c → Lies W B A (cells (nums l)) → B ≤ W.heap.size → TabA W → Calls Tryd.prog 15 #[.int .u8 49, .slice A l.length c] W fun e w' => e = .returned (.tuple #[valV 126 lo, .bool true]) ∧ Below W.heap.size W w')
    (hS : ∀ W A c B, l.length ≤ c → Lies W B A (cells (nums l)) → B ≤ W.heap.size → TabA W → Calls Tryd.prog 15 #[.int .u8 48, .slice A l.length c] W fun e w' => e = .returned (.tuple #[valV 126 hi, .bool true]) ∧ Below W.heap.size W w') :
    Calls Tryd.prog 5 #[.int .u64 x, .int .u8 which] w fun e w' => e = .returned (.bool true) ∧ Below w.heap.size w w' := by
  have HT := Lib.hid hT
  have HY := Lib.hid hY
  have HR := Lib.hid hR
  have HS := Lib.hid hS
  rw [hl] at HR HS
  have ek : Int.tmod (which : Int) 7 = 4 := by rw [Int.tmod_eq_emod_of_nonneg (by omega)]; omega
  have ek2 : (which : Int) % 7 = 4 := by omega
  clear hT hY hR hS
  go_enter Tryd.func5, Tryd.ntmps5
  go_wp2_with (first
    | (go_at_call 6; (with_reducible refine (convAwake _ HT.out).mono ?_); rintro e w1 ⟨rfl, hb1⟩; have HB1 := Lib.hid (hb1.trans ((three_below w1 (.cells #[.int .u8 54, .int .u8 55, .int .u8 58, .int .u8 59, .int .u8 60, .int .u8 61, .int .u8 62] 5) (.cells #[.int .u8 40, .int .u8 41, .int .u8 45, .int .u8 47, .int .u8 49, .int .u8 51, .int .u8 53] 5) (.cells #[.int .u8 40, .int .u8 41, .int .u8 44, .int .u8 46, .int .u8 48, .int .u8 50, .int .u8 52] 5)).mono hb1.size)); have HQ := Lib.hid (three_made w1 #[.int .u8 54, .int .u8 55, .int .u8 58, .int .u8 59, .int .u8 60, .int .u8 61, .int .u8 62] #[.int .u8 40, .int .u8 41, .int .u8 45, .int .u8 47, .int .u8 49, .int .u8 51, .int .u8 53] #[.int .u8 40, .int .u8 41, .int .u8 44, .int .u8 46, .int .u8 48, .int .u8 50, .int .u8 52]); clear hb1; have c0 := HQ.out.1.cell 4; simp only [List.getElem?_toArray, List.getElem?_cons_zero, List.getElem?_cons_succ] at c0)
    | (go_at_call 17; (with_reducible refine (HY.out _ (HT.out.below HB1.out)).mono ?_); rintro e w2 ⟨v2, rfl, hr2, hb2⟩; obtain ⟨A2, n2, rfl, hc2, hl2⟩ := hr2.liesC; have HL2 := Lib.hid hl2; have HC2 := Lib.hid hc2; clear hc2; have HB2 := Lib.hid (HB1.out.trans (hb2.mono HB1.out.size)); have HQ2 := Lib.hid (And.intro (HQ.out.2.1.below hb2) (HQ.out.2.2.below hb2)); have c2 := HQ2.out.1.cell 4; simp only [List.getElem?_toArray, List.getElem?_cons_zero, List.getElem?_cons_succ] at c2; clear hr2 hl2 hb2)
    | (go_at_call 15; (with_reducible refine (HR.out _ _ _ _ (by have := HC2.out; omega) HL2.out (Nat.le_refl _) (HT.out.below HB2.out)).mono ?_); rintro e w3 ⟨rfl, hb3⟩; have HL3 := Lib.hid (HL2.out.below hb3 (Nat.le_refl _)); have HX3 := Lib.hid (Whole.made w3 25 #[.int .u8 126, .int .u64 lo]); have h23 := hb3.size; have HQ3 := Lib.hid ((HQ2.out.2.below hb3).alloc (.cells #[.int .u8 126, .int .u64 lo] 25)); have c3 := HQ3.out.cell 4; simp only [List.getElem?_toArray, List.getElem?_cons_zero, List.getElem?_cons_succ] at c3; have HB3 := Lib.hid ((HB2.out.trans (hb3.mono HB2.out.size)).alloc (HB2.out.trans (hb3.mono HB2.out.size)).size (.cells #[.int .u8 126, .int .u64 lo] 25)); clear hb3)
    | (go_at_call 15; (with_reducible refine (HS.out _ _ _ _ (by have := HC2.out; omega) (HL3.out.below ((Below.refl _ _).alloc (Nat.le_refl _) (.cells #[.int .u8 126, .int .u64 lo] 25)) h23) (by simp; omega) (HT.out.below HB3.out)).mono ?_); rintro e w4 ⟨rfl, hb4⟩; have HX4 := Lib.hid (Whole.made w4 25 #[.int .u8 126, .int .u64 hi]); have HY4 := Lib.hid ((HX3.out.below hb4).alloc (.cells #[.int .u8 126, .int .u64 hi] 25)); have x0 := HY4.out.cell 0; have x1 := HY4.out.cell 1; have y1 := HX4.out.cell 1; simp only [List.getElem?_toArray, List.getElem?_cons_zero, List.getElem?_cons_succ] at x0 x1 y1; have HB4 := Lib.hid ((HB3.out.trans (hb4.mono HB3.out.size)).alloc (HB3.out.trans (hb4.mono HB3.out.size)).size (.cells #[.int .u8 126, .int .u64 hi] 25)); clear hb4))
  go_ret
  exact ⟨rfl, HB4.out⟩
set_option maxHeartbeats 4000000 in
theorem convBack_5 {w : World} (which x lo hi hi2 : Nat) (l : List UInt8) (hx : x < 18446744073709551616) (hw : which ≤ 255) (hk : which % 7 = 5) (hl : l.length = 2) (hT : TabA w) (hlo : lo < 18446744073709551616) (hhi : hi < 18446744073709551616)
    (q0 : IntKind.u64.wrap ((x : Int) * 281474976710656) / 281474976710656 = (lo : Int)) (q1 : IntKind.u64.wrap (wrap64 (IntKind.u64.wrap ((x : Int) * 281474976710656)) / 281474976710656) = (hi : Int))
    (hY : ∀ W, TabA W → Calls Tryd.prog 17 #[.int .u8 61, .int .u64 x] W fun e w' => ∃ v, e = .returned (.tuple #[v, .bool true]) ∧ Row w' W.heap.size v l ∧ Below W.heap.size W w')
    (hR : ∀ W A c B, l.length ≤ c → Lies W B A (cells (nums l)) → B ≤ W.heap.size → TabA W → Calls Tryd.prog 15 #[.int .u8 51, .slice A l.length c] W fun e w' => e = .returned (.tuple #[valV 126 lo, .bool true]) ∧ Below W.heap.size W w')
    (hS : ∀ W A c B, l.length ≤ c → Lies W B A (cells (nums l)) → B ≤ W.heap.size → TabA W → Calls Tryd.prog 15 #[.int .u8 50, .slice A l.length c] W fun e w' => e = .returned (.tuple #[valV 126 hi, .bool true]) ∧ Below W.heap.size W w') :
    Calls Tryd.prog 5 #[.int .u64 x, .int .u8 which] w fun e w' => e = .returned (.bool true) ∧ Below w.heap.size w w' := by
  have HT := Lib.hid hT
  have HY := Lib.hid hY
  have HR := Lib.hid hR
  have HS := Lib.hid hS
  rw [hl] at HR HS
  have ek : Int.tmod (which : Int) 7 = 5 := by rw [Int.tmod_eq_emod_of_nonneg (by omega)]; omega
  have ek2 : (which : Int) % 7 = 5 := by omega
  clear hT hY hR hS
  go_enter Tryd.func5, Tryd.ntmps5
  go_wp2_with (first
    | (go_at_call 6; (with_reducible refine (convAwake _ HT.out).mono ?_); rintro e w1 ⟨rfl, hb1⟩; have HB1 := Lib.hid (hb1.trans ((three_below w1 (.cells #[.int .u8 54, .int .u8 55, .int .u8 58, .int .u8 59, .int .u8 60, .int .u8 61, .int .u8 62] 5) (.cells #[.int .u8 40, .int .u8 41, .int .u8 45, .int .u8 47, .int .u8 49, .int .u8 51, .int .u8 53] 5) (.cells #[.int .u8 40, .int .u8 41, .int .u8 44, .int .u8 46, .int .u8 48, .int .u8 50, .int .u8 52] 5)).mono hb1.size)); have HQ := Lib.hid (three_made w1 #[.int .u8 54, .int .u8 55, .int .u8 58, .int .u8 59, .int .u8 60, .int .u8 61, .int .u8 62] #[.int .u8 40, .int .u8 41, .int .u8 45, .int .u8 47, .int .u8 49, .int .u8 51, .int .u8 53] #[.int .u8 40, .int .u8 41, .int .u8 44, .int .u8 46, .int .u8 48, .int .u8 50, .int .u8 52]); clear hb1; have c0 := HQ.out.1.cell 5; simp only [List.getElem?_toArray, List.getElem?_cons_zero, List.getElem?_cons_succ] at c0)
    | (go_at_call 17; (with_reducible refine (HY.out _ (HT.out.below HB1.out)).mono ?_); rintro e w2 ⟨v2, rfl, hr2, hb2⟩; obtain ⟨A2, n2, rfl, hc2, hl2⟩ := hr2.liesC; have HL2 := Lib.hid hl2; have HC2 := Lib.hid hc2; clear hc2; have HB2 := Lib.hid (HB1.out.trans (hb2.mono HB1.out.size)); have HQ2 := Lib.hid (And.intro (HQ.out.2.1.below hb2) (HQ.out.2.2.below hb2)); have c2 := HQ2.out.1.cell 5; simp only [List.getElem?_toArray, List.getElem?_cons_zero, List.getElem?_cons_succ] at c2; clear hr2 hl2 hb2)
    | (go_at_call 15; (with_reducible refine (HR.out _ _ _ _ (by have := HC2.out; omega) HL2.out (Nat.le_refl _) (HT.out.below HB2.out)).mono ?_); rintro e w3 ⟨rfl, hb3⟩; have HL3 := Lib.hid (HL2.out.below hb3 (Nat.le_refl _)); have HX3 := Lib.hid (Whole.made w3 25 #[.int .u8 126, .int .u64 lo]); have h23 := hb3.size; have HQ3 := Lib.hid ((HQ2.out.2.below hb3).alloc (.cells #[.int .u8 126, .int .u64 lo] 25)); have c3 := HQ3.out.cell 5; simp only [List.getElem?_toArray, List.getElem?_cons_zero, List.getElem?_cons_succ] at c3; have HB3 := Lib.hid ((HB2.out.trans (hb3.mono HB2.out.size)).alloc (HB2.out.trans (hb3.mono HB2.out.size)).size (.cells #[.int .u8 126, .int .u64 lo] 25)); clear hb3)
    | (go_at_call 15; (with_reducible refine (HS.out _ _ _ _ (by have := HC2.out; omega) (HL3.out.below ((Below.refl _ _).alloc (Nat.le_refl _) (.cells #[.int .u8 126, .int .u64 lo] 25)) h23) (by simp; omega) (HT.out.below HB3.out)).mono ?_); rintro e w4 ⟨rfl, hb4⟩; have HX4 := Lib.hid (Whole.made w4 25 #[.int .u8 126, .int .u64 hi]); have HY4 := Lib.hid ((HX3.out.below hb4).alloc (.cells #[.int .u8 126, .int .u64 hi] 25)); have x0 := HY4.out.cell 0; have x1 := HY4.out.cell 1; have y1 := HX4.out.cell 1; simp only [List.getElem?_toArray, List.getElem?_cons_zero, List.getElem?_cons_succ] at x0 x1 y1; have HB4 := Lib.hid ((HB3.out.trans (hb4.mono HB3.out.size)).alloc (HB3.out.trans (hb4.mono HB3.out.size)).size (.cells #[.int .u8 126, .int .u64 hi] 25)); clear hb4))
  go_ret
  exact ⟨rfl, HB4.out⟩
set_option maxHeartbeats 4000000 in
theorem convBack_6 {w : World} (which x lo hi hi2 : Nat) (l : List UInt8) (hx : x < 18446744073709551616) (hw : which ≤ 255) (hk : which % 7 = 6) (hl : l.length = 4) (hT : TabA w) (hlo : lo < 18446744073709551616) (hhi : hi < 18446744073709551616)
    (q0 : IntKind.u64.wrap ((x : Int) * 4294967296) / 4294967296 = (lo : Int)) (q1 : IntKind.u64.wrap (wrap64 (IntKind.u64.wrap ((x : Int) * 4294967296)) / 4294967296) = (hi : Int))
    (hY : ∀ W, TabA W → Calls Tryd.prog 17 #[.int .u8 62, .int .u64 x] W fun e w' => ∃ v, e = .returned (.tuple #[v, .bool true]) ∧ Row w' W.heap.size v l ∧ Below W.heap.size W w')
    (hR : ∀ W A c B, l.length ≤ c → Lies W B A (cells (nums l)) → B ≤ W.heap.size → TabA W → Calls Tryd.prog 15 #[.int .u8 53, .slice A l.length c] W fun e w' => e = .returned (.tuple #[valV 126 lo, .bool true]) ∧ Below W.heap.size W w')
    (hS : ∀ W A c B, l.length ≤ c → Lies W B A (cells (nums l)) → B ≤ W.heap.size → TabA W → Calls Tryd.prog 15 #[.int .u8 52, .slice A l.length c] W fun e w' => e = .returned (.tuple #[valV 126 hi, .bool true]) ∧ Below W.heap.size W w') :
    Calls Tryd.prog 5 #[.int .u64 x, .int .u8 which] w fun e w' => e = .returned (.bool true) ∧ Below w.heap.size w w' := by
  have HT := Lib.hid hT
  have HY := Lib.hid hY
  have HR := Lib.hid hR
  have HS := Lib.hid hS
  rw [hl] at HR HS
  have ek : Int.tmod (which : Int) 7 = 6 := by rw [Int.tmod_eq_emod_of_nonneg (by omega)]; omega
  have ek2 : (which : Int) % 7 = 6 := by omega
  clear hT hY hR hS
  go_enter Tryd.func5, Tryd.ntmps5
  go_wp2_with (first
    | (go_at_call 6; (with_reducible refine (convAwake _ HT.out).mono ?_); rintro e w1 ⟨rfl, hb1⟩; have HB1 := Lib.hid (hb1.trans ((three_below w1 (.cells #[.int .u8 54, .int .u8 55, .int .u8 58, .int .u8 59, .int .u8 60, .int .u8 61, .int .u8 62] 5) (.cells #[.int .u8 40, .int .u8 41, .int .u8 45, .int .u8 47, .int .u8 49, .int .u8 51, .int .u8 53] 5) (.cells #[.int .u8 40, .int .u8 41, .int .u8 44, .int .u8 46, .int .u8 48, .int .u8 50, .int .u8 52] 5)).mono hb1.size)); have HQ := Lib.hid (three_made w1 #[.int .u8 54, .int .u8 55, .int .u8 58, .int .u8 59, .int .u8 60, .int .u8 61, .int .u8 62] #[.int .u8 40, .int .u8 41, .int .u8 45, .int .u8 47, .int .u8 49, .int .u8 51, .int .u8 53] #[.int .u8 40, .int .u8 41, .int .u8 44, .int .u8 46, .int .u8 48, .int .u8 50, .int .u8 52]); clear hb1; have c0 := HQ.out.1.cell 6; simp only [List.getElem?_toArray, List.getElem?_cons_zero, List.getElem?_cons_succ] at c0)
    | (go_at_call 17; (with_reducible refine (HY.out _ (HT.out.below HB1.out)).mono ?_); rintro e w2 ⟨v2, rfl, hr2, hb2⟩; obtain ⟨A2, n2, rfl, hc2, hl2⟩ := hr2.liesC; have HL2 := Lib.hid hl2; have HC2 := Lib.hid hc2; clear hc2; have HB2 := Lib.hid (HB1.out.trans (hb2.mono HB1.out.size)); have HQ2 := Lib.hid (And.intro (HQ.out.2.1.below hb2) (HQ.out.2.2.below hb2)); have c2 := HQ2.out.1.cell 6; simp only [List.getElem?_toArray, List.getElem?_cons_zero, List.getElem?_cons_succ] at c2; clear hr2 hl2 hb2)
    | (go_at_call 15; (with_reducible refine (HR.out _ _ _ _ (by have := HC2.out; omega) HL2.out (Nat.le_refl _) (HT.out.below HB2.out)).mono ?_); rintro e w3 ⟨rfl, hb3⟩; have HL3 := Lib.hid (HL2.out.below hb3 (Nat.le_refl _)); have HX3 := Lib.hid (Whole.made w3 25 #[.int .u8 126, .int .u64 lo]); have h23 := hb3.size; have HQ3 := Lib.hid ((HQ2.out.2.below hb3).alloc (.cells #[.int .u8 126, .int .u64 lo] 25)); have c3 := HQ3.out.cell 6; simp only [List.getElem?_toArray, List.getElem?_cons_zero, List.getElem?_cons_succ] at c3; have HB3 := Lib.hid ((HB2.out.trans (hb3.mono HB2.out.size)).alloc (HB2.out.trans (hb3.mono HB2.out.size)).size (.cells #[.int .u8 126, .int .u64 lo] 25)); clear hb3)
    | (go_at_call 15; (with_reducible refine (HS.out _ _ _ _ (by have := HC2.out; omega) (HL3.out.below ((Below.refl _ _).alloc (Nat.le_refl _) (.cells #[.int .u8 126, .int .u64 lo] 25)) h23) (by simp; omega) (HT.out.below HB3.out)).mono ?_); rintro e w4 ⟨rfl, hb4⟩; have HX4 := Lib.hid (Whole.made w4 25 #[.int .u8 126, .int .u64 hi]); have HY4 := Lib.hid ((HX3.out.below hb4).alloc (.cells #[.int .u8 126, .int .u64 hi] 25)); have x0 := HY4.out.cell 0; have x1 := HY4.out.cell 1; have y1 := HX4.out.cell 1; simp only [List.getElem?_toArray, List.getElem?_cons_zero, List.getElem?_cons_succ] at x0 x1 y1; have HB4 := Lib.hid ((HB3.out.trans (hb4.mono HB3.out.size)).alloc (HB3.out.trans (hb4.mono HB3.out.size)).size (.cells #[.int .u8 126, .int .u64 hi] 25)); clear hb4))
  go_ret
  exact ⟨rfl, HB4.out⟩
theorem convBack_law (x which : Nat) (w : World) (hx : x < 18446744073709551616) (hw : which ≤ 255) (hT : TabA w) : Calls Tryd.prog 5 #[.int .u64 x, .int .u8 which] w fun e w' => e = .returned (.bool true) ∧ Below w.heap.size w w' := by
  have hk7 : which % 7 < 7 := Nat.mod_lt _ (by decide)
  have hY := fun (op : Nat) (ho : op ≤ 255) (l : List UInt8) (h : writeZ op x = some l) W (hT : TabA W) => show Calls Tryd.prog 17 #[.int .u8 op, .int .u64 x] W fun e w' => ∃ v, e = .returned (.tuple #[v, .bool true]) ∧ Row w' W.heap.size v l ∧ Below W.heap.size W w' by have := writeP_any op x W hx hT ho; rw [h] at this; exact this
  have hR := fun (op : Nat) (ho : op ≤ 255) (l : List UInt8) (t v : Nat) (h : readZ op l = some (t, v)) W A c B (hlc : l.length ≤ c) (hL : Lies W B A (cells (nums l))) (hB : B ≤ W.heap.size) (hT : TabA W) => show Calls Tryd.prog 15 #[.int .u8 op, .slice A l.length c] W fun e w' => e = .returned (.tuple #[valV t v, .bool true]) ∧ Below W.heap.size W w' by have := readP_any op l A c B W hlc hL hB hT ho; rw [h] at this; exact this
  have key : ∀ n k : Nat, 1 ≤ n → n ≤ 8 → k = 64 - 8 * n → (IntKind.u64.wrap ((x : Int) * 2 ^ k) / 2 ^ k = ((x % 256 ^ n : Nat) : Int)) ∧ (IntKind.u64.wrap (wrap64 (IntKind.u64.wrap ((x : Int) * 2 ^ k)) / 2 ^ k) = ((extN x n : Nat) : Int)) := by
    intro n k h1 h8 hk
    have hs := ext_shift x n k h1 h8 hk
    have e3 : (2 : Int) ^ k = ((2 ^ k : Nat) : Int) := by norm_cast
    have e1 : 2 ^ (8 * n) * 2 ^ k = 18446744073709551616 := by rw [← Nat.pow_add, show 8 * n + k = 64 by omega]
    have ew : IntKind.u64.wrap ((x : Int) * 2 ^ k) = ((x * 2 ^ k % 18446744073709551616 : Nat) : Int) := by rw [IntKind.wrap_u64, e3, ← Int.natCast_mul]; generalize x * 2 ^ k = q; omega
    refine ⟨?_, ?_⟩
    · rw [ew, e3, ← Int.natCast_ediv, pow256, ← e1, Nat.mul_mod_mul_right, Nat.mul_div_cancel _ (Nat.two_pow_pos k)]
    · rw [ew, IntKind.wrap_u64]
      exact hs
  have bl : ∀ n, (bytN n x).length = n := fun n => bytN_len n x
  by_cases h0 : which % 7 = 0
  · have K := key 4 32 (by decide) (by decide) rfl
    have hlt : x % 256 ^ 4 < 256 ^ 4 := Nat.mod_lt _ (by decide)
    have hlo : x % 256 ^ 4 < 18446744073709551616 := Nat.lt_of_lt_of_le hlt (by decide)
    have hhi := extN_lt x 4 hx (by decide) (by decide)
    have z0 : readZ 40 (bytN 4 x) = some (127, x % 256 ^ 4) := by
      have e : readZ 40 (bytN 4 x) = if (false = false ∧ (bytN 4 x).length = 4) then some (127, readN false false 4 (bytN 4 x)) else none := rfl
      rw [e, if_pos ⟨rfl, bl 4⟩]
      unfold readN
      simp only [numB_bytN, Bool.false_eq_true, if_false]
      rw [Nat.mod_eq_of_lt (Nat.lt_of_lt_of_le hlt (by decide))]
    have z1 : readZ 40 (bytN 4 x) = some (127, (extN x 4 % 2 ^ 32)) := by
      have e : readZ 40 (bytN 4 x) = if (false = false ∧ (bytN 4 x).length = 4) then some (127, readN false false 4 (bytN 4 x)) else none := rfl
      rw [e, if_pos ⟨rfl, bl 4⟩]
      unfold readN
      simp only [numB_bytN, Bool.false_eq_true, if_false]
      have : (x % 256 ^ 4) % 2 ^ 32 = extN x 4 % 2 ^ 32 := by unfold extN; split <;> omega
      rw [this]
    exact convBack_0 which x (x % 256 ^ 4) (extN x 4) (extN x 4 % 2 ^ 32) (bytN 4 x) hx hw h0 (bl 4) hT hlo hhi K.1 K.2 (by rw [show (4294967295 : Int) = ((4294967295 : Nat) : Int) from rfl, u64_and_nat _ _ hhi (by decide)]; exact congrArg _ (Nat.and_two_pow_sub_one_eq_mod _ 32)) (hY 54 (by decide) _ rfl) (hR 40 (by decide) _ _ _ z0) (hR 40 (by decide) _ _ _ z1)
  by_cases h1 : which % 7 = 1
  · have K := key 8 0 (by decide) (by decide) rfl
    have hlt : x % 256 ^ 8 < 256 ^ 8 := Nat.mod_lt _ (by decide)
    have hlo : x % 256 ^ 8 < 18446744073709551616 := Nat.lt_of_lt_of_le hlt (by decide)
    have hhi := extN_lt x 8 hx (by decide) (by decide)
    have z0 : readZ 41 (bytN 8 x) = some (126, x % 256 ^ 8) := by
      have e : readZ 41 (bytN 8 x) = if (false = false ∧ (bytN 8 x).length = 8) then some (126, readN true false 8 (bytN 8 x)) else none := rfl
      rw [e, if_pos ⟨rfl, bl 8⟩]
      unfold readN
      simp only [if_true, numB_bytN, Bool.false_eq_true, if_false]
    have z1 : readZ 41 (bytN 8 x) = some (126, extN x 8) := by
      have e : readZ 41 (bytN 8 x) = if (false = false ∧ (bytN 8 x).length = 8) then some (126, readN true false 8 (bytN 8 x)) else none := rfl
      rw [e, if_pos ⟨rfl, bl 8⟩]
      unfold readN
      simp only [if_true, numB_bytN, Bool.false_eq_true, if_false]
      have : x % 256 ^ 8 = extN x 8 := by unfold extN; split <;> omega
      rw [this]
    have e8 : x % 256 ^ 8 = x := Nat.mod_eq_of_lt hx
    have f8 : extN x 8 = x := by unfold extN; split <;> omega
    rw [e8] at z0
    rw [f8] at z1
    exact convBack_1 which x (bytN 8 x) hx hw h1 (bl 8) hT (by rw [IntKind.wrap_u64]; unfold wrap64; omega) (hY 55 (by decide) _ rfl) (hR 41 (by decide) _ _ _ z0) (hR 41 (by decide) _ _ _ z1)
  by_cases h2 : which % 7 = 2
  · have K := key 1 56 (by decide) (by decide) rfl
    have hlt : x % 256 ^ 1 < 256 ^ 1 := Nat.mod_lt _ (by decide)
    have hlo : x % 256 ^ 1 < 18446744073709551616 := Nat.lt_of_lt_of_le hlt (by decide)
    have hhi := extN_lt x 1 hx (by decide) (by decide)
    have z0 : readZ 45 (bytN 1 x) = some (127, x % 256 ^ 1) := by
      have e : readZ 45 (bytN 1 x) = if (false = false ∧ (bytN 1 x).length = 1) then some (127, readN false false 1 (bytN 1 x)) else none := rfl
      rw [e, if_pos ⟨rfl, bl 1⟩]
      unfold readN
      simp only [numB_bytN, Bool.false_eq_true, if_false]
      rw [Nat.mod_eq_of_lt (Nat.lt_of_lt_of_le hlt (by decide))]
    have z1 : readZ 44 (bytN 1 x) = some (127, (extN x 1 % 2 ^ 32)) := by
      have e : readZ 44 (bytN 1 x) = if (false = false ∧ (bytN 1 x).length = 1) then some (127, readN false true 1 (bytN 1 x)) else none := rfl
      rw [e, if_pos ⟨rfl, bl 1⟩]
      unfold readN
      simp only [if_true, numB_bytN, Bool.false_eq_true, if_false]
      rw [extN_mod x 1 (by decide)]
    exact convBack_2 which x (x % 256 ^ 1) (extN x 1) (extN x 1 % 2 ^ 32) (bytN 1 x) hx hw h2 (bl 1) hT hlo hhi K.1 K.2 (by rw [show (4294967295 : Int) = ((4294967295 : Nat) : Int) from rfl, u64_and_nat _ _ hhi (by decide)]; exact congrArg _ (Nat.and_two_pow_sub_one_eq_mod _ 32)) (hY 58 (by decide) _ rfl) (hR 45 (by decide) _ _ _ z0) (hR 44 (by decide) _ _ _ z1)
  by_cases h3 : which % 7 = 3
  · have K := key 2 48 (by decide) (by decide) rfl
    have hlt : x % 256 ^ 2 < 256 ^ 2 := Nat.mod_lt _ (by decide)
    have hlo : x % 256 ^ 2 < 18446744073709551616 := Nat.lt_of_lt_of_le hlt (by decide)
    have hhi := extN_lt x 2 hx (by decide) (by decide)
    have z0 : readZ 47 (bytN 2 x) = some (127, x % 256 ^ 2) := by
      have e : readZ 47 (bytN 2 x) = if (false = false ∧ (bytN 2 x).length = 2) then some (127, readN false false 2 (bytN 2 x)) else none := rfl
      rw [e, if_pos ⟨rfl, bl 2⟩]
      unfold readN
      simp only [numB_bytN, Bool.false_eq_true, if_false]
      rw [Nat.mod_eq_of_lt (Nat.lt_of_lt_of_le hlt (by decide))]
    have z1 : readZ 46 (bytN 2 x) = some (127, (extN x 2 % 2 ^ 32)) := by
      have e : readZ 46 (bytN 2 x) = if (false = false ∧ (bytN 2 x).length = 2) then some (127, readN false true 2 (bytN 2 x)) else none := rfl
      rw [e, if_pos ⟨rfl, bl 2⟩]
      unfold readN
      simp only [if_true, numB_bytN, Bool.false_eq_true, if_false]
      rw [extN_mod x 2 (by decide)]
    exact convBack_3 which x (x % 256 ^ 2) (extN x 2) (extN x 2 % 2 ^ 32) (bytN 2 x) hx hw h3 (bl 2) hT hlo hhi K.1 K.2 (by rw [show (4294967295 : Int) = ((4294967295 : Nat) : Int) from rfl, u64_and_nat _ _ hhi (by decide)]; exact congrArg _ (Nat.and_two_pow_sub_one_eq_mod _ 32)) (hY 59 (by decide) _ rfl) (hR 47 (by decide) _ _ _ z0) (hR 46 (by decide) _ _ _ z1)
  by_cases h4 : which % 7 = 4
  · have K := key 1 56 (by decide) (by decide) rfl
    have hlt : x % 256 ^ 1 < 256 ^ 1 := Nat.mod_lt _ (by decide)
    have hlo : x % 256 ^ 1 < 18446744073709551616 := Nat.lt_of_lt_of_le hlt (by decide)
    have hhi := extN_lt x 1 hx (by decide) (by decide)
    have z0 : readZ 49 (bytN 1 x) = some (126, x % 256 ^ 1) := by
      have e : readZ 49 (bytN 1 x) = if (false = false ∧ (bytN 1 x).length = 1) then some (126, readN true false 1 (bytN 1 x)) else none := rfl
      rw [e, if_pos ⟨rfl, bl 1⟩]
      unfold readN
      simp only [if_true, numB_bytN, Bool.false_eq_true, if_false]
    have z1 : readZ 48 (bytN 1 x) = some (126, extN x 1) := by
      have e : readZ 48 (bytN 1 x) = if (false = false ∧ (bytN 1 x).length = 1) then some (126, readN true true 1 (bytN 1 x)) else none := rfl
      rw [e, if_pos ⟨rfl, bl 1⟩]
      unfold readN
      simp only [if_true, numB_bytN, Bool.false_eq_true, if_false]
      rw [extN_mod x 1 (by decide)]
    exact convBack_4 which x (x % 256 ^ 1) (extN x 1) 0 (bytN 1 x) hx hw h4 (bl 1) hT hlo hhi K.1 K.2 (hY 60 (by decide) _ rfl) (hR 49 (by decide) _ _ _ z0) (hR 48 (by decide) _ _ _ z1)
  by_cases h5 : which % 7 = 5
  · have K := key 2 48 (by decide) (by decide) rfl
    have hlt : x % 256 ^ 2 < 256 ^ 2 := Nat.mod_lt _ (by decide)
    have hlo : x % 256 ^ 2 < 18446744073709551616 := Nat.lt_of_lt_of_le hlt (by decide)
    have hhi := extN_lt x 2 hx (by decide) (by decide)
    have z0 : readZ 51 (bytN 2 x) = some (126, x % 256 ^ 2) := by
      have e : readZ 51 (bytN 2 x) = if (false = false ∧ (bytN 2 x).length = 2) then some (126, readN true false 2 (bytN 2 x)) else none := rfl
      rw [e, if_pos ⟨rfl, bl 2⟩]
      unfold readN
      simp only [if_true, numB_bytN, Bool.false_eq_true, if_false]
    have z1 : readZ 50 (bytN 2 x) = some (126, extN x 2) := by
      have e : readZ 50 (bytN 2 x) = if (false = false ∧ (bytN 2 x).length = 2) then some (126, readN true true 2 (bytN 2 x)) else none := rfl
      rw [e, if_pos ⟨rfl, bl 2⟩]
      unfold readN
      simp only [if_true, numB_bytN, Bool.false_eq_true, if_false]
      rw [extN_mod x 2 (by decide)]
    exact convBack_5 which x (x % 256 ^ 2) (extN x 2) 0 (bytN 2 x) hx hw h5 (bl 2) hT hlo hhi K.1 K.2 (hY 61 (by decide) _ rfl) (hR 51 (by decide) _ _ _ z0) (hR 50 (by decide) _ _ _ z1)
  by_cases h6 : which % 7 = 6
  · have K := key 4 32 (by decide) (by decide) rfl
    have hlt : x % 256 ^ 4 < 256 ^ 4 := Nat.mod_lt _ (by decide)
    have hlo : x % 256 ^ 4 < 18446744073709551616 := Nat.lt_of_lt_of_le hlt (by decide)
    have hhi := extN_lt x 4 hx (by decide) (by decide)
    have z0 : readZ 53 (bytN 4 x) = some (126, x % 256 ^ 4) := by
      have e : readZ 53 (bytN 4 x) = if (false = false ∧ (bytN 4 x).length = 4) then some (126, readN true false 4 (bytN 4 x)) else none := rfl
      rw [e, if_pos ⟨rfl, bl 4⟩]
      unfold readN
      simp only [if_true, numB_bytN, Bool.false_eq_true, if_false]
    have z1 : readZ 52 (bytN 4 x) = some (126, extN x 4) := by
      have e : readZ 52 (bytN 4 x) = if (false = false ∧ (bytN 4 x).length = 4) then some (126, readN true true 4 (bytN 4 x)) else none := rfl
      rw [e, if_pos ⟨rfl, bl 4⟩]
      unfold readN
      simp only [if_true, numB_bytN, Bool.false_eq_true, if_false]
      rw [extN_mod x 4 (by decide)]
    exact convBack_6 which x (x % 256 ^ 4) (extN x 4) 0 (bytN 4 x) hx hw h6 (bl 4) hT hlo hhi K.1 K.2 (hY 62 (by decide) _ rfl) (hR 53 (by decide) _ _ _ z0) (hR 52 (by decide) _ _ _ z1)
  omega
end Go.Proofs.YtakklljpngeocaaDoor
