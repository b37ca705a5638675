/- creelref03.First. -/
import Derived.Test.YtihpnplfklbgjaaDoorQd01
import Derived.Deep.RegionHeld3
import Derived.Lib.Strings
import Derived.Test.YtihpnplfklbgjaaDoorShelf
import Derived.WalkLawsBesides
import Derived.Defers
import Derived.Recover
import Derived.Lib.Hide
import Derived.Laws.MathBits
namespace Go.Proofs.YtihpnplfklbgjaaDoor
set_option linter.unusedVariables false
open Go.RowKit

/-- The number out of the first byte's bits and the bytes 1 to k. -/
def part (base : Nat) (l : List UInt8) : Nat → Nat
  | 0 => base
  | k + 1 => part base l k * 64 + (l.getD (k + 1) 0).toNat % 64
theorem part_lt (base : Nat) (l : List UInt8) (h : base < 256) : ∀ k, part base l k < 256 * 64 ^ k
  | 0 => by simpa [part] using h
  | k + 1 => by
    have := part_lt base l h k
    unfold part
    rw [Nat.pow_succ]
    omega
theorem part_le {base : Nat} {l : List UInt8} {k : Nat} (h : base < 256) (hk : k ≤ 3) : part base l k ≤ 67108864 := by
  have := part_lt base l h k
  have h2 : 64 ^ k ≤ 64 ^ 3 := Nat.pow_le_pow_right (by omega) hk
  have : 256 * 64 ^ k ≤ 256 * 64 ^ 3 := Nat.mul_le_mul_left _ h2
  have : 256 * 64 ^ 3 = 67108864 := by decide
  omega
def baseOf (n : Nat) (b0 : Nat) : Nat := if n = 1 then b0 else if n = 2 then b0 % 32 else if n = 3 then b0 % 16 else b0 % 8
theorem part_val {n : Nat} {l : List UInt8} (h1 : 1 ≤ n) (h4 : n ≤ 4) : part (baseOf n (l.getD 0 0).toNat) l (n - 1) = val n l := by
  have hn : n = 1 ∨ n = 2 ∨ n = 3 ∨ n = 4 := by omega
  rcases hn with rfl | rfl | rfl | rfl <;> simp [part, baseOf, val]
theorem bytesZ_nat (n : Nat) : bytesZ (n : Int) = bytesN n := by
  unfold bytesZ
  rw [if_neg (by omega)]
  rfl
theorem good_bool {n : Nat} {l : List UInt8} (hn : n ≤ l.length) (h : GoodN n l) : ((S (bytesN (val n l))).toList == ((S l).extract 0 n).toList) = true := by
  rw [S_toList, S_extract, S_toList]
  have := h.2
  simp [this]
theorem bad_bool {n : Nat} {l : List UInt8} (hn : n ≤ l.length) (h : ¬ GoodN n l) : ((S (bytesN (val n l))).toList == ((S l).extract 0 n).toList) = false := by
  rw [S_toList, S_extract, S_toList]
  simp only [Nat.sub_zero, List.drop_zero, beq_eq_false_iff_ne]
  exact fun e => h ⟨hn, e⟩
theorem val_eq {k : IntKind} {a b : Int} (h : a = b) : Value.int k a = .int k b := by rw [h]
theorem two {B : Nat} {a w1 w2 : World} (h : Below B a w1) (hB : B ≤ a.heap.size) (k : Below w1.heap.size w1 w2) : Below B a w2 := h.trans (k.mono (Nat.le_trans hB h.size))
def FirstOut (l : List UInt8) (w : World) (e : Ending) (w' : World) : Prop := e = .returned (.tuple #[.int .i64 ((firstN l).1 : Int), .int .i64 ((firstN l).2 : Int)]) ∧ Below w.heap.size w w'
theorem firstOut_good {l : List UInt8} {n : Nat} {w w' : World} (h1 : 1 ≤ n) (h4 : n ≤ 4) (h : GoodN n l) (hb : Below w.heap.size w w') : FirstOut l w (.returned (.tuple #[.int .i64 ((val n l : Nat) : Int), .int .i64 (n : Int)])) w' := by
  unfold FirstOut
  rw [firstN_good h1 h4 h]
  exact ⟨rfl, hb⟩
theorem firstOut_none {l : List UInt8} {w w' : World} (h : ∀ n, 1 ≤ n → n ≤ 4 → ¬ GoodN n l) (hb : Below w.heap.size w w') : FirstOut l w (.returned (.tuple #[.int .i64 0, .int .i64 0])) w' := by
  unfold FirstOut
  rw [firstN_none h]
  exact ⟨rfl, hb⟩

set_option maxRecDepth 100000 in
set_option maxHeartbeats 2000000 in
theorem refFirst_any (l : List UInt8) (w : World) (hl : l.length ≤ 1000000) : Calls Tryd.prog 72 #[.string (S l)] w (FirstOut l w) := by
  obtain ⟨z, hz⟩ : ∃ z, S l = z := ⟨_, rfl⟩
  have hN : z.size = l.length := by rw [← hz, S_size]
  have hg : ∀ (i : Nat) (h : i < z.size), z[i] = l.getD i 0 := fun i h => by
    subst hz
    rw [S_get]
    rw [S_size] at h
    simp [List.getD, List.getElem?_eq_getElem h]
  rw [hz]
  have hz9 : z.size ≤ 1000000 := by omega
  have HZ := Lib.hid hz
  have HN := Lib.hid hN
  have HG := Lib.hid hg
  clear hz hN hg
  go_enter Tryd.func72, Tryd.ntmps72
  go_wp2
  go_loopw [4] (fun v wr => ∃ n : Int, v = .int .i64 n ∧ 1 ≤ n ∧ n ≤ 5 ∧ (∀ m : Nat, 1 ≤ m → (m : Int) < n → ¬ GoodN m l) ∧ Below w.heap.size w wr) (fun v _ => 5 - (intOf v).toNat)
  case atStart => exact ⟨1, rfl, by omega, by omega, fun m a b => by omega, Below.refl _ _⟩
  case round =>
    obtain ⟨n, rfl, h1, h5, hno, hbe⟩ := hrel
    have HNO := Lib.hid hno
    have HB := Lib.hid hbe
    clear hno hbe
    by_cases h4 : n ≤ 4
    · by_cases hfit : n ≤ z.size
      · have hz0 : 0 < z.size := by omega
        obtain ⟨b0, hb0⟩ : ∃ b0, z[0] = b0 := ⟨_, rfl⟩
        have lb0 := b0.toNat_lt
        have hgb : l.getD 0 0 = b0 := by rw [← hb0]; exact (HG.out 0 hz0).symm
        have HGB := Lib.hid hgb
        clear hgb
        have hn : n = 1 ∨ n = 2 ∨ n = 3 ∨ n = 4 := by omega
        rcases hn with rfl | rfl | rfl | rfl
        · have hf1 : (1 : Int) ≤ (z.size : Int) := by omega
          have hb9 : baseOf 1 b0.toNat < 256 := by unfold baseOf; simp; omega
          go_wp2
          go_loop [5, 6] (fun v i => ∃ k : Nat, i = .int .i64 ((k : Int) + 1) ∧ k + 1 ≤ 1 ∧ v = .int .i64 ((part (baseOf 1 b0.toNat) l k : Nat) : Int)) (fun _ i => 1 - (intOf i).toNat)
          case atStart => exact ⟨0, rfl, by omega, val_eq (by show _ = ((baseOf 1 b0.toNat : Nat) : Int); unfold baseOf; simp)⟩
          case round =>
            obtain ⟨k, rfl, hk, rfl⟩ := hrel
            have hp9 := part_le (l := l) hb9 (k := k) (by omega)
            by_cases hk2 : k + 1 < 1
            · omega
            · obtain rfl : k = 0 := by omega
              have hv : part (baseOf 1 b0.toNat) l 0 = val 1 l := by rw [← HGB.out]; exact part_val (n := 1) (by omega) (by omega)
              rw [hv] at hp9 ⊢
              have hk3 : decide (((0 : Nat) : Int) + 1 < 1) = false := by decide
              have hnl : 1 ≤ l.length := by have := HN.out; omega
              have hbz : bytesZ ((val 1 l : Nat) : Int) = bytesN (val 1 l) := bytesZ_nat _
              have HBZ := Lib.hid hbz
              clear hbz hv
              by_cases hg : GoodN 1 l
              · have he := good_bool hnl hg
                rw [HZ.out] at he
                have HGD := Lib.hid hg
                clear hg
                generalize hq : val 1 l = q at *
                have HQ := Lib.hid hq
                clear hq
                go_wp2_with fail
                go_region_held3 (fun _ => True) (trivial) ((go_at_call 101; refine (bytes_any _ _).mono ?_; intro e w' hb; have hb0 := hb.below; obtain ⟨rfl, _⟩ := hb; rw [HBZ.out]; have HB2 := Lib.hid hb0; clear hb0))
                all_goals
                  go_wp2
                  go_ret2
                  exact (HQ.out ▸ firstOut_good (n := 1) (by omega) (by omega) HGD.out (two HB.out.drew (Nat.le_refl _) HB2.out))
              · have he := bad_bool hnl hg
                rw [HZ.out] at he
                have F : ∀ m : Nat, 1 ≤ m → (m : Int) < 1 + 1 → ¬ GoodN m l := fun m a b g => by
                  by_cases hm : (m : Int) < 1
                  · exact HNO.out m a hm g
                  · obtain rfl : m = 1 := by omega
                    exact hg g
                have HF := Lib.hid F
                clear F hg
                generalize hq : val 1 l = q at *
                go_wp2_with fail
                go_region_held3 (fun _ => True) (trivial) ((go_at_call 101; refine (bytes_any _ _).mono ?_; intro e w' hb; have hb0 := hb.below; obtain ⟨rfl, _⟩ := hb; rw [HBZ.out]; have HB2 := Lib.hid hb0; clear hb0))
                all_goals
                  go_wp2
                  go_roundw
                  case rel => exact ⟨2, rfl, by omega, by omega, HF.out, two HB.out.drew (Nat.le_refl _) HB2.out⟩
                  case measure => simp [intOf]
        · have hf1 : (2 : Int) ≤ (z.size : Int) := by omega
          have hb9 : baseOf 2 b0.toNat < 256 := by unfold baseOf; simp; omega
          go_wp2
          go_loop [5, 6] (fun v i => ∃ k : Nat, i = .int .i64 ((k : Int) + 1) ∧ k + 1 ≤ 2 ∧ v = .int .i64 ((part (baseOf 2 b0.toNat) l k : Nat) : Int)) (fun _ i => 2 - (intOf i).toNat)
          case atStart => exact ⟨0, rfl, by omega, val_eq (by show _ = ((baseOf 2 b0.toNat : Nat) : Int); unfold baseOf; simp)⟩
          case round =>
            obtain ⟨k, rfl, hk, rfl⟩ := hrel
            have hp9 := part_le (l := l) hb9 (k := k) (by omega)
            by_cases hk2 : k + 1 < 2
            · have hkz : k + 1 < z.size := by omega
              obtain ⟨x, hx⟩ : ∃ x, z[k + 1] = x := ⟨_, rfl⟩
              have lx := x.toNat_lt
              have hpart : part (baseOf 2 b0.toNat) l (k + 1) = part (baseOf 2 b0.toNat) l k * 64 + x.toNat % 64 := by
                rw [← hx, HG.out (k + 1) hkz]; rfl
              have HP := Lib.hid hpart
              clear hpart
              generalize hq : part (baseOf 2 b0.toNat) l k = q at *
              have HQ := Lib.hid hq
              clear hq
              go_wp2
              go_round
              case rel => exact ⟨k + 1, by go_num, by omega, val_eq (by rw [HP.out]; omega)⟩
              case measure => simp [intOf]; omega
            · obtain rfl : k = 1 := by omega
              have hv : part (baseOf 2 b0.toNat) l 1 = val 2 l := by rw [← HGB.out]; exact part_val (n := 2) (by omega) (by omega)
              rw [hv] at hp9 ⊢
              have hk3 : decide (((1 : Nat) : Int) + 1 < 2) = false := by decide
              have hnl : 2 ≤ l.length := by have := HN.out; omega
              have hbz : bytesZ ((val 2 l : Nat) : Int) = bytesN (val 2 l) := bytesZ_nat _
              have HBZ := Lib.hid hbz
              clear hbz hv
              by_cases hg : GoodN 2 l
              · have he := good_bool hnl hg
                rw [HZ.out] at he
                have HGD := Lib.hid hg
                clear hg
                generalize hq : val 2 l = q at *
                have HQ := Lib.hid hq
                clear hq
                go_wp2_with fail
                go_region_held3 (fun _ => True) (trivial) ((go_at_call 101; refine (bytes_any _ _).mono ?_; intro e w' hb; have hb0 := hb.below; obtain ⟨rfl, _⟩ := hb; rw [HBZ.out]; have HB2 := Lib.hid hb0; clear hb0))
                all_goals
                  go_wp2
                  go_ret2
                  exact (HQ.out ▸ firstOut_good (n := 2) (by omega) (by omega) HGD.out (two HB.out.drew (Nat.le_refl _) HB2.out))
              · have he := bad_bool hnl hg
                rw [HZ.out] at he
                have F : ∀ m : Nat, 1 ≤ m → (m : Int) < 2 + 1 → ¬ GoodN m l := fun m a b g => by
                  by_cases hm : (m : Int) < 2
                  · exact HNO.out m a hm g
                  · obtain rfl : m = 2 := by omega
                    exact hg g
                have HF := Lib.hid F
                clear F hg
                generalize hq : val 2 l = q at *
                go_wp2_with fail
                go_region_held3 (fun _ => True) (trivial) ((go_at_call 101; refine (bytes_any _ _).mono ?_; intro e w' hb; have hb0 := hb.below; obtain ⟨rfl, _⟩ := hb; rw [HBZ.out]; have HB2 := Lib.hid hb0; clear hb0))
                all_goals
                  go_wp2
                  go_roundw
                  case rel => exact ⟨3, rfl, by omega, by omega, HF.out, two HB.out.drew (Nat.le_refl _) HB2.out⟩
                  case measure => simp [intOf]
        · have hf1 : (3 : Int) ≤ (z.size : Int) := by omega
          have hb9 : baseOf 3 b0.toNat < 256 := by unfold baseOf; simp; omega
          go_wp2
          go_loop [5, 6] (fun v i => ∃ k : Nat, i = .int .i64 ((k : Int) + 1) ∧ k + 1 ≤ 3 ∧ v = .int .i64 ((part (baseOf 3 b0.toNat) l k : Nat) : Int)) (fun _ i => 3 - (intOf i).toNat)
          case atStart => exact ⟨0, rfl, by omega, val_eq (by show _ = ((baseOf 3 b0.toNat : Nat) : Int); unfold baseOf; simp)⟩
          case round =>
            obtain ⟨k, rfl, hk, rfl⟩ := hrel
            have hp9 := part_le (l := l) hb9 (k := k) (by omega)
            by_cases hk2 : k + 1 < 3
            · have hkz : k + 1 < z.size := by omega
              obtain ⟨x, hx⟩ : ∃ x, z[k + 1] = x := ⟨_, rfl⟩
              have lx := x.toNat_lt
              have hpart : part (baseOf 3 b0.toNat) l (k + 1) = part (baseOf 3 b0.toNat) l k * 64 + x.toNat % 64 := by
                rw [← hx, HG.out (k + 1) hkz]; rfl
              have HP := Lib.hid hpart
              clear hpart
              generalize hq : part (baseOf 3 b0.toNat) l k = q at *
              have HQ := Lib.hid hq
              clear hq
              go_wp2
              go_round
              case rel => exact ⟨k + 1, by go_num, by omega, val_eq (by rw [HP.out]; omega)⟩
              case measure => simp [intOf]; omega
            · obtain rfl : k = 2 := by omega
              have hv : part (baseOf 3 b0.toNat) l 2 = val 3 l := by rw [← HGB.out]; exact part_val (n := 3) (by omega) (by omega)
              rw [hv] at hp9 ⊢
              have hk3 : decide (((2 : Nat) : Int) + 1 < 3) = false := by decide
              have hnl : 3 ≤ l.length := by have := HN.out; omega
              have hbz : bytesZ ((val 3 l : Nat) : Int) = bytesN (val 3 l) := bytesZ_nat _
              have HBZ := Lib.hid hbz
              clear hbz hv
              by_cases hg : GoodN 3 l
              · have he := good_bool hnl hg
                rw [HZ.out] at he
                have HGD := Lib.hid hg
                clear hg
                generalize hq : val 3 l = q at *
                have HQ := Lib.hid hq
                clear hq
                go_wp2_with fail
                go_region_held3 (fun _ => True) (trivial) ((go_at_call 101; refine (bytes_any _ _).mono ?_; intro e w' hb; have hb0 := hb.below; obtain ⟨rfl, _⟩ := hb; rw [HBZ.out]; have HB2 := Lib.hid hb0; clear hb0))
                all_goals
                  go_wp2
                  go_ret2
                  exact (HQ.out ▸ firstOut_good (n := 3) (by omega) (by omega) HGD.out (two HB.out.drew (Nat.le_refl _) HB2.out))
              · have he := bad_bool hnl hg
                rw [HZ.out] at he
                have F : ∀ m : Nat, 1 ≤ m → (m : Int) < 3 + 1 → ¬ GoodN m l := fun m a b g => by
                  by_cases hm : (m : Int) < 3
                  · exact HNO.out m a hm g
                  · obtain rfl : m = 3 := by omega
                    exact hg g
                have HF := Lib.hid F
                clear F hg
                generalize hq : val 3 l = q at *
                go_wp2_with fail
                go_region_held3 (fun _ => True) (trivial) ((go_at_call 101; refine (bytes_any _ _).mono ?_; intro e w' hb; have hb0 := hb.below; obtain ⟨rfl, _⟩ := hb; rw [HBZ.out]; have HB2 := Lib.hid hb0; clear hb0))
                all_goals
                  go_wp2
                  go_roundw
                  case rel => exact ⟨4, rfl, by omega, by omega, HF.out, two HB.out.drew (Nat.le_refl _) HB2.out⟩
                  case measure => simp [intOf]
        · have hf1 : (4 : Int) ≤ (z.size : Int) := by omega
          have hb9 : baseOf 4 b0.toNat < 256 := by unfold baseOf; simp; omega
          go_wp2
          go_loop [5, 6] (fun v i => ∃ k : Nat, i = .int .i64 ((k : Int) + 1) ∧ k + 1 ≤ 4 ∧ v = .int .i64 ((part (baseOf 4 b0.toNat) l k : Nat) : Int)) (fun _ i => 4 - (intOf i).toNat)
          case atStart => exact ⟨0, rfl, by omega, val_eq (by show _ = ((baseOf 4 b0.toNat : Nat) : Int); unfold baseOf; simp)⟩
          case round =>
            obtain ⟨k, rfl, hk, rfl⟩ := hrel
            have hp9 := part_le (l := l) hb9 (k := k) (by omega)
            by_cases hk2 : k + 1 < 4
            · have hkz : k + 1 < z.size := by omega
              obtain ⟨x, hx⟩ : ∃ x, z[k + 1] = x := ⟨_, rfl⟩
              have lx := x.toNat_lt
              have hpart : part (baseOf 4 b0.toNat) l (k + 1) = part (baseOf 4 b0.toNat) l k * 64 + x.toNat % 64 := by
                rw [← hx, HG.out (k + 1) hkz]; rfl
              have HP := Lib.hid hpart
              clear hpart
              generalize hq : part (baseOf 4 b0.toNat) l k = q at *
              have HQ := Lib.hid hq
              clear hq
              go_wp2
              go_round
              case rel => exact ⟨k + 1, by go_num, by omega, val_eq (by rw [HP.out]; omega)⟩
              case measure => simp [intOf]; omega
            · obtain rfl : k = 3 := by omega
              have hv : part (baseOf 4 b0.toNat) l 3 = val 4 l := by rw [← HGB.out]; exact part_val (n := 4) (by omega) (by omega)
              rw [hv] at hp9 ⊢
              have hk3 : decide (((3 : Nat) : Int) + 1 < 4) = false := by decide
              have hnl : 4 ≤ l.length := by have := HN.out; omega
              have hbz : bytesZ ((val 4 l : Nat) : Int) = bytesN (val 4 l) := bytesZ_nat _
              have HBZ := Lib.hid hbz
              clear hbz hv
              by_cases hg : GoodN 4 l
              · have he := good_bool hnl hg
                rw [HZ.out] at he
                have HGD := Lib.hid hg
                clear hg
                generalize hq : val 4 l = q at *
                have HQ := Lib.hid hq
                clear hq
                go_wp2_with fail
                go_region_held3 (fun _ => True) (trivial) ((go_at_call 101; refine (bytes_any _ _).mono ?_; intro e w' hb; have hb0 := hb.below; obtain ⟨rfl, _⟩ := hb; rw [HBZ.out]; have HB2 := Lib.hid hb0; clear hb0))
                all_goals
                  go_wp2
                  go_ret2
                  exact (HQ.out ▸ firstOut_good (n := 4) (by omega) (by omega) HGD.out (two HB.out.drew (Nat.le_refl _) HB2.out))
              · have he := bad_bool hnl hg
                rw [HZ.out] at he
                have F : ∀ m : Nat, 1 ≤ m → (m : Int) < 4 + 1 → ¬ GoodN m l := fun m a b g => by
                  by_cases hm : (m : Int) < 4
                  · exact HNO.out m a hm g
                  · obtain rfl : m = 4 := by omega
                    exact hg g
                have HF := Lib.hid F
                clear F hg
                generalize hq : val 4 l = q at *
                go_wp2_with fail
                go_region_held3 (fun _ => True) (trivial) ((go_at_call 101; refine (bytes_any _ _).mono ?_; intro e w' hb; have hb0 := hb.below; obtain ⟨rfl, _⟩ := hb; rw [HBZ.out]; have HB2 := Lib.hid hb0; clear hb0))
                all_goals
                  go_wp2
                  go_roundw
                  case rel => exact ⟨5, rfl, by omega, by omega, HF.out, two HB.out.drew (Nat.le_refl _) HB2.out⟩
                  case measure => simp [intOf]
      · have hd : decide (n ≤ (z.size : Int)) = false := by simp; omega
        have F : ∀ m, 1 ≤ m → m ≤ 4 → ¬ GoodN m l := fun m a b g => by
          by_cases hm : (m : Int) < n
          · exact HNO.out m a hm g
          · have := g.1; have := HN.out; omega
        have HF := Lib.hid F
        clear F
        go_wp2
        go_ret2
        exact firstOut_none HF.out HB.out
    · have hd : decide (n ≤ 4) = false := by simp; omega
      have F : ∀ m : Nat, 1 ≤ m → m ≤ 4 → ¬ GoodN m l := fun m a b => HNO.out m a (by omega)
      have HF := Lib.hid F
      clear F
      go_wp2
      go_ret2
      exact firstOut_none HF.out HB.out
end Go.Proofs.YtihpnplfklbgjaaDoor

/- creelref03.Count. -/
namespace Go.Proofs.YtihpnplfklbgjaaDoor
set_option linter.unusedVariables false
open Go.RowKit Go.Lib

def strLen : Value → Nat
  | .string s => s.size
  | _ => 0
theorem run_tail {n : Nat} {l : List UInt8} (h : n ≤ l.length) (w : World) : (Instr.slice 9 (.string (S l)) (some (.int .i64 (n : Int))) none none).run Tryd.prog w = .ok (.string (S (l.drop n))) w := by
  have h := run_slice_string_l (P := Tryd.prog) w 9 (S l) Tryd.underlying9 .i64 (n : Int) (by omega) (by rw [S_size]; omega)
  rw [h, S_extract, S_size, show ((n : Int)).toNat = n from rfl, List.take_of_length_le (by simp)]
theorem countZ_nil : countZ [] = 0 := by decide
theorem ret_val {k : IntKind} {a b : Int} (h : a = b) : Ending.returned (.int k a) = .returned (.int k b) := by rw [h]

set_option maxHeartbeats 1000000 in
theorem refCount_any (l : List UInt8) (w : World) (hl : l.length ≤ 1000000) : Calls Tryd.prog 36 #[.string (S l)] w fun e w' => e = .returned (.int .i64 (countZ l)) ∧ Below w.heap.size w w' := by
  go_enter Tryd.func36, Tryd.ntmps36
  go_wp2
  go_loopw [0, 3] (fun v c wr => ∃ (r : List UInt8) (k : Nat), v = .string (S r) ∧ c = .int .i64 k ∧ validD l = validD r ∧ runeCountL l = k + runeCountL r ∧ r.length ≤ 1000000 ∧ Below w.heap.size w wr) (fun v _ _ => strLen v)
  case atStart => exact ⟨l, 0, rfl, rfl, rfl, by omega, hl, Below.refl _ _⟩
  case round =>
    obtain ⟨r, k, rfl, rfl, hv, hc, hr, hbe⟩ := hrel
    have HB := Lib.hid hbe
    have hk : k ≤ 1000000 := by have := count_le l; omega
    clear hbe
    by_cases h0 : r = []
    · subst h0
      have e : countZ l = (k : Int) := by
        unfold countZ
        rw [if_pos (by rw [hv]; rfl), hc]
        have : runeCountL [] = 0 := rfl
        omega
      have HE := Lib.hid e
      have hz : (S []).size = 0 := rfl
      clear hv hc e
      go_wp2
      go_ret
      exact ⟨ret_val HE.out.symm, HB.out⟩
    · have hlen : 0 < r.length := List.length_pos_iff.2 h0
      have hz : 0 < (S r).size := by rw [S_size]; exact hlen
      have hle := firstN_le r
      by_cases hn : (firstN r).2 = 0
      · have e : countZ l = -1 := by
          unfold countZ
          rw [if_neg (by rw [hv, valid_none h0 hn]; simp)]
        have HE := Lib.hid e
        have HH := Lib.hid hn
        clear hv hc e hn
        go_wp2_with fail
        refine (refFirst_any r _ hr).mono ?_
        rintro e w1 ⟨rfl, hb1⟩
        rw [HH.out]
        have H1 := Lib.hid (two HB.out (Nat.le_refl _) hb1)
        clear hb1 HB
        go_wp2
        go_ret
        exact ⟨ret_val HE.out.symm, H1.out⟩
      · have hv2 := valid_some h0 hn
        have hc2 := count_some h0 hn
        have hsl := run_tail (n := (firstN r).2) (l := r) hle.2.1
        have hlt : strLen (.string (S (r.drop (firstN r).2))) < strLen (.string (S r)) := by
          show (S _).size < (S _).size
          rw [S_size, S_size, List.length_drop]; omega
        have hr2 : (r.drop (firstN r).2).length ≤ 1000000 := by rw [List.length_drop]; omega
        have HV := Lib.hid (hv.trans hv2)
        have HC := Lib.hid (show runeCountL l = (k + 1) + runeCountL (r.drop (firstN r).2) by omega)
        have HL := Lib.hid hlt
        have HR := Lib.hid hr2
        have hne : (((firstN r).2 : Int) == 0) = false := beq_eq_false_iff_ne.2 (by omega)
        clear hv hc hv2 hc2 hlt hr2
        go_wp2_with fail
        refine (refFirst_any r _ hr).mono ?_
        rintro e w1 ⟨rfl, hb1⟩
        have H1 := Lib.hid (two HB.out (Nat.le_refl _) hb1)
        clear hb1 HB
        generalize (firstN r).2 = n at *
        generalize (firstN r).1 = v at *
        go_wp2
        go_roundw
        case rel => exact ⟨_, k + 1, rfl, by go_num, HV.out, HC.out, HR.out, H1.out⟩
        case measure => exact HL.out
end Go.Proofs.YtihpnplfklbgjaaDoor

/- utf.First, utf.Count, utf.Check over the library's contracts. -/
namespace Go.Proofs.YtihpnplfklbgjaaDoor
set_option linter.unusedVariables false
set_option maxRecDepth 100000
open Go.RowKit Go.Lib

/-- The two tables of unicode/utf8 hold what they are laid with. -/
def TabsU (w : World) : Prop := Lib.Utf8Tabs 0 1 w
theorem TabsU.below {w wr : World} (h : TabsU w) (hb : Below w.heap.size w wr) : TabsU wr := Utf8Tabs_below h hb
theorem TabsU.on {B w wr : World} (h : TabsU B) (hB : Below B.heap.size B w) (hb : Below w.heap.size w wr) : TabsU wr := (h.below hB).below hb

theorem valid_any (l : List UInt8) (w : World) (hl : l.length ≤ 1000000) (hT : TabsU w) : Calls Tryd.prog 103 #[.string (S l)] w fun e w' => e = .returned (.bool (validD l)) ∧ Below w.heap.size w w' := by
  have h := Any.utf8_ValidString Tryd.lays196 (S l) w (by rw [S_size]; omega) hT
  rw [S_list] at h
  exact h
/-- api.ErrLong is 13, api.ErrUTF 4, api.OK 0. -/
def checkZ (l : List UInt8) : Int := if 200 < l.length then 13 else if validD l = true then 0 else 4
theorem checkU_any (l : List UInt8) (w : World) (hl : l.length ≤ 1000000) (hT : TabsU w) : Calls Tryd.prog 78 #[.string (S l)] w fun e w' => e = .returned (.int .i64 (checkZ l)) ∧ Below w.heap.size w w' := by
  have hs : (S l).size = l.length := S_size l
  by_cases h2 : 200 < l.length
  · have e : checkZ l = 13 := by unfold checkZ; rw [if_pos h2]
    have HE := Lib.hid e
    have hs2 : 200 < (S l).size := by omega
    clear e hs
    go_enter Tryd.func78, Tryd.ntmps78
    go_wp2
    go_ret
    exact ⟨ret_val HE.out.symm, Below.refl _ _⟩
  · have hd : decide ((200 : Int) < ((S l).size : Int)) = false := by simp; omega
    clear hs
    by_cases hv : validD l = true
    · have e : checkZ l = 0 := by unfold checkZ; rw [if_neg h2, if_pos hv]
      have HE := Lib.hid e
      clear e
      go_enter Tryd.func78, Tryd.ntmps78
      go_wp2_with (first
        | (go_at_call 103; go_must (refine (valid_any l _ hl hT).mono ?_; rintro e w1 ⟨rfl, hb1⟩; have H1 := Lib.hid hb1; clear hb1)))
      go_ret
      exact ⟨ret_val HE.out.symm, H1.out⟩
    · have hv' : validD l = false := by simpa using hv
      have e : checkZ l = 4 := by unfold checkZ; rw [if_neg h2, if_neg hv]
      have HE := Lib.hid e
      clear e hv
      go_enter Tryd.func78, Tryd.ntmps78
      go_wp2_with (first
        | (go_at_call 103; go_must (refine (valid_any l _ hl hT).mono ?_; rintro e w1 ⟨rfl, hb1⟩; have H1 := Lib.hid hb1; clear hb1)))
      go_ret
      exact ⟨ret_val HE.out.symm, H1.out⟩

/-- The bytes l lie at b, from off on. -/
def Bys (w : World) (b off : Nat) (l : List UInt8) : Prop := ∀ j (h : j < l.length), w.cell? ⟨b, off + j, none⟩ = some (.int .u8 ((l[j]'h).toNat : Int))
theorem Bys.below {w w' : World} {b off : Nat} {l : List UInt8} (h : Bys w b off l) (hb : Below w.heap.size w w') (hlt : b < w.heap.size) : Bys w' b off l := fun j hj =>
  (hb.cell (p := ⟨b, off + j, none⟩) hlt).trans (h j hj)
end Go.Proofs.YtihpnplfklbgjaaDoor

/- types.appendList, types.Text, creelref04.names, creelref04.Text. -/
namespace Go.Proofs.YtihpnplfklbgjaaDoor
set_option linter.unusedVariables false
open Go.RowKit

/-- The names of the first k types, commas between them. -/
def commaK (l : List UInt8) : Nat → List UInt8
  | 0 => []
  | k + 1 => match l[k]? with
    | none => commaK l k
    | some c => commaK l k ++ ((if k = 0 then [] else [44]) ++ nameZ c.toNat)
def listL (l : List UInt8) : List UInt8 := 40 :: (commaK l l.length ++ [41])
def textL (p r : List UInt8) : List UInt8 := listL p ++ ([45, 62] ++ listL r)
theorem commaK_len (l : List UInt8) : ∀ k, (commaK l k).length ≤ 8 * k
  | 0 => by simp [commaK]
  | k + 1 => by
    have ih := commaK_len l k
    unfold commaK
    split
    · omega
    · rename_i c _
      have := (nameZ_len c.toNat).2
      rw [List.length_append, List.length_append]
      split <;> simp <;> omega
theorem commaK_first {l : List UInt8} {c : UInt8} (h : l[0]? = some c) : commaK l 1 = nameZ c.toNat := by
  show (match l[0]? with | none => _ | some c => _) = _
  rw [h]
  simp [commaK]
theorem commaK_next {l : List UInt8} {c : UInt8} {k : Nat} (h : l[k]? = some c) (hk : k ≠ 0) : commaK l (k + 1) = commaK l k ++ ([44] ++ nameZ c.toNat) := by
  show (match l[k]? with | none => _ | some c => _) = _
  rw [h]
  simp [hk]
theorem listL_len (l : List UInt8) : (listL l).length ≤ 8 * l.length + 2 := by
  unfold listL
  have := commaK_len l l.length
  simp; omega

/-- What appendList hands back. -/
def Onto (B : Nat) (l : List UInt8) (w : World) (e : Ending) (w' : World) : Prop := ∃ v, e = .returned v ∧ Row w' B v l ∧ Below B w w'

theorem S_at {l : List UInt8} {k : Nat} (h : k < l.length) : ∃ c : UInt8, l[k]? = some c ∧ ∀ hh : k < (S l).size, (S l)[k]'hh = c :=
  ⟨l[k], List.getElem?_eq_getElem h, fun hh => S_get l k hh⟩

end Go.Proofs.YtihpnplfklbgjaaDoor

/- creelref04.names, creelref04.Text; awake. -/
namespace Go.Proofs.YtihpnplfklbgjaaDoor
set_option linter.unusedVariables false
open Go.RowKit

theorem cat_comma (a b : List UInt8) : Value.string (S a ++ { data := #[44] } ++ S b) = .string (S (a ++ ([44] ++ b))) := by
  rw [show ({ data := #[44] } : ByteArray) = S [44] from rfl, S_append, S_append, List.append_assoc]
theorem cat_two (a b : List UInt8) : Value.string (S a ++ S b) = .string (S (a ++ b)) := by rw [S_append]

theorem cat_text (x y : List UInt8) : Ending.returned (.string ({ data := #[40] } ++ S x ++ { data := #[41, 45, 62, 40] } ++ S y ++ { data := #[41] })) = .returned (.string (S ([40] ++ x ++ [41, 45, 62, 40] ++ y ++ [41]))) := by
  rw [show ({ data := #[40] } : ByteArray) = S [40] from rfl, show ({ data := #[41] } : ByteArray) = S [41] from rfl, show ({ data := #[41, 45, 62, 40] } : ByteArray) = S [41, 45, 62, 40] from rfl, S_append, S_append, S_append, S_append]

/-- What is held while a box of two values lies at the end of the world w: nothing below it turns, and both stay. -/
def Boxed (w : World) (o : Obj) (w' : World) : Prop := Below (w.heap.size + 1) (w.alloc o) w'
theorem Boxed.start (w : World) (o : Obj) : Boxed w o (w.alloc o).drew := (Below.refl _ _).drew
theorem Boxed.cell {w w' : World} {o : Obj} (h : Boxed w o w') (i : Nat) : w'.cell? ⟨w.heap.size, i, none⟩ = (w.alloc o).cell? ⟨w.heap.size, i, none⟩ := Below.cell (show Below _ _ _ from h) (p := ⟨w.heap.size, i, none⟩) (Nat.lt_succ_self _)
theorem Boxed.row {w w' : World} {cs : Array Value} {t : TypeId} (h : Boxed w (.cells cs t) w') (i : Nat) : w'.cell? ⟨w.heap.size, i, none⟩ = cs[i]? := (h.cell i).trans (cell_of_row _ _ _ _ _ _ (heap_alloc_new w _))
theorem Boxed.on {w w1 w2 : World} {o : Obj} (h : Boxed w o w1) (hb : Below w1.heap.size w1 w2) : Boxed w o w2 := Below.trans h (hb.mono (by have := Below.size h; simp at this; omega))
theorem Boxed.end {w w' : World} {o : Obj} (h : Boxed w o w') : Below w.heap.size w w' := (below_box w o).trans (Below.mono h (by omega))
theorem Boxed.room {w w' : World} {o : Obj} (h : Boxed w o w') : w.heap.size + 1 ≤ w'.heap.size := by
  have := Below.size h
  simp at this
  omega
/-- A call that leaves what there was, where two cells of a box are held. -/
theorem held_two {K : Nat} {args : Array Value} {w : World} {u v : Value} {t : TypeId} {R : Ending → Prop} (hN : ∀ w, Calls Tryd.prog K args w fun e w' => R e ∧ Below w.heap.size w w') {W : World}
    (h : Boxed w (.cells #[u, v] t) W ∧ W.cell? ⟨w.heap.size, 0, none⟩ = some u ∧ W.cell? ⟨w.heap.size, 1, none⟩ = some v) :
    Calls Tryd.prog K args W fun e w' => R e ∧ Boxed w (.cells #[u, v] t) w' ∧ w'.cell? ⟨w.heap.size, 0, none⟩ = some u ∧ w'.cell? ⟨w.heap.size, 1, none⟩ = some v :=
  (hN W).mono fun _ _ ⟨h1, h2⟩ => ⟨h1, h.1.on h2, (h.1.on h2).row 0, (h.1.on h2).row 1⟩

theorem eg_text : S (textL [127, 126] [127]) = { data := #[40, 105, 51, 50, 44, 105, 54, 52, 41, 45, 62, 40, 105, 51, 50, 41] } := by decide
end Go.Proofs.YtihpnplfklbgjaaDoor

/- The contracts of package abort: Now, Unless, stopOf, call, Out. -/
namespace Go.Proofs.YtihpnplfklbgjaaDoor
set_option linter.unusedVariables false
open Go.RowKit

/-- The panic with which a Stop aborts. -/
def stopP (c a : Int) : List PanicEntry := [{ v := .iface 37 (.agg #[.int .i64 c, .int .i64 a]), recovered := false }]

/-- How a step ends: with code 0 it returns, else it panics with its Stop. -/
def Ended (c a : Int) (e : Ending) : Prop := (c = 0 ∧ a = 0 ∧ e = .returned (.tuple #[])) ∨ (¬ c = 0 ∧ e = .panicked (stopP c a))

theorem now_any (c a : Int) (w : World) :
    Calls Tryd.prog 83 #[.int .i64 c, .int .i64 a] w fun e w' => e = .panicked (stopP c a) ∧ w' = w := by
  go_enter Tryd.func83, Tryd.ntmps83
  go_wp2
  exact ⟨rfl, rfl, rfl⟩

theorem unless_true (c a : Int) (w : World) :
    Calls Tryd.prog 48 #[.bool true, .int .i64 c, .int .i64 a] w fun e w' => e = .returned (.tuple #[]) ∧ w' = w := by
  go_enter Tryd.func48, Tryd.ntmps48
  go_wp2_with fail
  go_end0
  exact ⟨rfl, rfl⟩

theorem unless_false (c a : Int) (w : World) :
    Calls Tryd.prog 48 #[.bool false, .int .i64 c, .int .i64 a] w fun e w' => e = .panicked (stopP c a) ∧ w' = w := by
  go_enter Tryd.func48, Tryd.ntmps48
  go_wp2_with (go_at_call 83; refine (now_any _ _ _).mono ?_; rintro e w' ⟨rfl, rfl⟩)
  exact ⟨rfl, rfl, rfl⟩

theorem stopOf_any (c a : Int) (w : World) :
    Calls Tryd.prog 81 #[.iface 37 (.agg #[.int .i64 c, .int .i64 a])] w fun e w' => e = .returned (.agg #[.int .i64 c, .int .i64 a]) ∧ Below w.heap.size w w' := by
  have hta : ∀ w : World, (Instr.typeAssert (Value.iface 37 (Value.agg #[Value.int IntKind.i64 c, Value.int IntKind.i64 a])) 20 37 true).run Tryd.prog w = .ok (.tuple #[.agg #[Value.int IntKind.i64 c, Value.int IntKind.i64 a], .bool true]) w := fun _ => by kernel_rfl
  go_enter Tryd.func81, Tryd.ntmps81
  go_wp2
  exact bodyPost_ret (v := .agg #[.int .i64 c, .int .i64 a]) (by simp [results, Tryd.results81, go_sem]) rfl ⟨rfl, ((Below.refl _ _).alloc (Nat.le_refl _) _).alloc (by simp) _⟩

theorem call_any (g : FuncId) (cap : Array Value) (w : World) (R : Ending → World → Prop) (hcf : ∀ w : World, (callFunc g cap).run Tryd.prog w = .ok (.enter g cap) w) (h : Calls Tryd.prog g cap w R)
    (hR : ∀ v w', R (.returned v) w' → R (.returned (.tuple #[])) w') (hO : ∀ w', R .outgrown w' → False) :
    Calls Tryd.prog 82 #[.func (.func g) #[] cap] w R := by
  have hnil : ∀ w : World, (binOp BinOp.neq 1 (.func (.func g) #[] cap) .nilFunc).run Tryd.prog w = .ok (.bool true) w := fun _ => by kernel_rfl
  go_enter Tryd.func82, Tryd.ntmps82
  go_wp2_with fail
  refine h.mono ?_
  intro e w' hr
  cases e with
  | returned v =>
    have hr2 := hR v w' hr
    clear hr hR h
    go_wp2_with fail
    exact bodyPost_ret (v := .tuple #[]) (by simp [results, Tryd.results82, go_sem]) rfl hr2
  | panicked ch => exact ⟨rfl, hr⟩
  | outgrown => exact (hO _ hr).elim

theorem catch_panicking (b : Nat) (c a x y : Int) (older : List PanicEntry) (w : World) (hb : Whole w b 37 #[.int .i64 x, .int .i64 y]) :
    CallsD Tryd.prog 80 #[.pointer (some ⟨b, 0, none⟩)] (.panicking ({ v := .iface 37 (.agg #[.int .i64 c, .int .i64 a]), recovered := false } :: older)) w fun e u' w' =>
      e = .returned (.tuple #[]) ∧ u' = .panicking ({ v := .iface 37 (.agg #[.int .i64 c, .int .i64 a]), recovered := true } :: older) ∧ Whole w' b 37 #[.int .i64 c, .int .i64 a] ∧ w.grownBy w' (some b) := by
  refine callsD_of_wpS Tryd.func80 rfl fun c₀ cs hu => ?_
  apply wpS_seq
  apply wpS_region
  simp [wpOpsS, go_sem, recoverD, hu, Tryd.ntmps80, Exit.thenS]
  apply wpS_seq
  apply wpS_region
  simp [wpOpsS, go_sem, Exit.thenS]
  refine wpS_cond (t := true) (by simp [Act.eval, Array.replicate]) ?_
  simp only [if_true]
  apply wpS_region
  simp [wpOpsS, go_sem]
  refine (stopOf_any c a w).mono ?_
  rintro e w1 ⟨rfl, hb1⟩
  have hw1 := hb.below hb1
  have h0 := hw1.cell 0
  have h1 := hw1.cell 1
  have f0 := hw1.frozen 0
  have f1 := hw1.frozen 1
  simp [go_sem, h0, h1, f0, f1]
  obtain ⟨hW, hG⟩ := two_put (u := .int .i64 c) (v := .int .i64 a) hb hb1
  clear h0 h1 f0 f1 hw1 hb1 hb
  refine ⟨rfl, .panicking ({ v := .iface 37 (.agg #[.int .i64 c, .int .i64 a]), recovered := true } :: older), rfl, .tuple #[], ?_, rfl, rfl, hW, hG⟩
  simp [results, Tryd.results80]

theorem catch_idle (p : Addr) (w : World) :
    CallsD Tryd.prog 80 #[.pointer (some p)] .returning w fun e u' w' => e = .returned (.tuple #[]) ∧ u' = .returning ∧ w' = w := by
  refine callsD_of_wpS Tryd.func80 rfl fun c₀ cs hu => ?_
  apply wpS_seq
  apply wpS_region
  simp [wpOpsS, go_sem, recoverD, hu, Tryd.ntmps80, Exit.thenS]
  apply wpS_seq
  apply wpS_region
  simp [wpOpsS, go_sem, Exit.thenS]
  refine wpS_cond (t := false) (by simp [Act.eval, Array.replicate]) ?_
  simp only [Bool.false_eq_true, if_false]
  refine wpS_of_wp (wp_skip ?_)
  cases c₀
  simp_all [bodyPostS, results, Tryd.results80]

set_option maxHeartbeats 400000 in
/-- Out of a function that ends by returning, or with a Stop. -/
theorem out_any (g : FuncId) (cap : Array Value) (c a : Int) (w : World) (S : World → Prop) (hcf : ∀ w : World, (callFunc g cap).run Tryd.prog w = .ok (.enter g cap) w)
    (h : Calls Tryd.prog g cap (w.alloc (.cells #[.int .i64 0, .int .i64 0] 37)) (fun e w' => Ended c a e ∧ S w'))
    (hS : ∀ w', S w' → Whole w' w.heap.size 37 #[.int .i64 0, .int .i64 0]) :
    Calls Tryd.prog 45 #[.func (.func g) #[] cap] w fun e w' => e = .returned (.agg #[.int .i64 c, .int .i64 a]) ∧ ∃ w1, S w1 ∧ w1.grownBy w' (some w.heap.size) := by
  have hmf : ∀ (fn : Fn) (first cap : Array Value) (w : World), (Instr.makeFunc fn first cap).run Tryd.prog w = .ok (.func fn first cap) w := fun _ _ _ _ => rfl
  go_enter_defers Tryd.func45, Tryd.ntmps45
  go_wp2_with (go_at_call 82; refine (call_any g cap _ _ hcf h ?_ ?_).mono ?_)
  · rintro v w' ⟨he, hs⟩
    rcases he with ⟨h0, h1, _⟩ | ⟨_, h1⟩
    · exact ⟨.inl ⟨h0, h1, rfl⟩, hs⟩
    · cases h1
  · rintro w' ⟨he, _⟩
    rcases he with ⟨_, _, h1⟩ | ⟨_, h1⟩ <;> cases h1
  · rintro e w1 ⟨he, hs⟩
    have hw1 := hS _ hs
    have h0 := hw1.cell 0
    have h1 := hw1.cell 1
    have f0 := hw1.frozen 0
    have f1 := hw1.frozen 1
    clear h hS
    rcases he with ⟨rfl, rfl, rfl⟩ | ⟨hc, rfl⟩
    · simp at h0 h1
      go_wp2_with fail
      refine leaves_cons (f := 80) (args := #[.pointer (some ⟨w.heap.size, 0, none⟩)]) (by simp) (by simp [go_sem]) ?_
      refine (catch_idle ⟨w.heap.size, 0, none⟩ _).mono ?_
      rintro e u' w2 ⟨rfl, rfl, rfl⟩
      simp [Leaves, settle, results, Tryd.results45, go_sem, h0, h1]
      have g1 : w1.grownBy (w1.setCell ⟨w.heap.size, 0, none⟩ (.int .i64 0)) (some w.heap.size) := gb_put (p := ⟨w.heap.size, 0, none⟩) (gb_refl w1 _) (.inl rfl) _
      exact ⟨w1, hs, gb_put (p := ⟨w.heap.size, 1, none⟩) g1 (.inl rfl) _⟩
    · have H := Lib.hid hc
      clear hc
      simp at h0 h1
      go_wp2_with fail
      refine leaves_cons (f := 80) (args := #[.pointer (some ⟨w.heap.size, 0, none⟩)]) (by simp) (by simp [go_sem]) ?_
      refine (catch_panicking w.heap.size c a 0 0 [] _ hw1).mono ?_
      rintro e u' w2 ⟨rfl, rfl, hw2, hg2⟩
      have k0 := hw2.cell 0
      have k1 := hw2.cell 1
      simp at k0 k1
      simp [Leaves, settle, results, Tryd.results45, go_sem, k0, k1]
      exact ⟨w1, hs, hg2⟩

set_option maxHeartbeats 400000 in
/-- Within: the offset of the Stop grows by 'by'. -/
theorem within_any (g : FuncId) (cap : Array Value) (c a n : Int) (w : World) (S : World → Prop) (hcf : ∀ w : World, (callFunc g cap).run Tryd.prog w = .ok (.enter g cap) w)
    (h : Calls Tryd.prog g cap (w.alloc (.cells #[.int .i64 0, .int .i64 0] 37)) (fun e w' => Ended c a e ∧ S w'))
    (hS : ∀ w', S w' → Whole w' w.heap.size 37 #[.int .i64 0, .int .i64 0])
    (ha : 0 ≤ a) (ha2 : a ≤ 1000000) (hn : 0 ≤ n) (hn2 : n ≤ 1000000) :
    Calls Tryd.prog 107 #[.int .i64 n, .func (.func g) #[] cap] w fun e w' => Ended c (if c = 0 then 0 else a + n) e ∧ ∃ w1, S w1 ∧ w1.grownBy w' (some w.heap.size) := by
  by_cases hc : c = 0
  · subst hc
    go_enter Tryd.func107, Tryd.ntmps107
    go_wp2_with (go_at_call 45; refine (out_any g cap 0 a _ S hcf h hS).mono ?_)
    rintro e w2 ⟨rfl, w1, hs, hg⟩
    go_wp2_with (go_at_call 48; refine (unless_true _ _ _).mono ?_; rintro e w' ⟨rfl, rfl⟩)
    go_end0
    exact ⟨.inl ⟨rfl, rfl, rfl⟩, w1, hs, gb_alloc hg _⟩
  · have H := Lib.hid hc
    have hd : (c == 0) = false := by simpa using hc
    rw [if_neg hc]
    clear hc
    go_enter Tryd.func107, Tryd.ntmps107
    go_wp2_with (go_at_call 45; refine (out_any g cap c a _ S hcf h hS).mono ?_)
    rintro e w2 ⟨rfl, w1, hs, hg⟩
    go_wp2_with (go_at_call 48; refine (unless_false _ _ _).mono ?_; rintro e w' ⟨rfl, rfl⟩)
    exact ⟨rfl, .inr ⟨H.out, rfl⟩, w1, hs, gb_alloc hg _⟩

end Go.Proofs.YtihpnplfklbgjaaDoor

/- A block of one, two, four cells, all written. -/
namespace Go.Proofs.YtihpnplfklbgjaaDoor
open Go.RowKit
set_option linter.unusedVariables false

theorem put1 {w : World} {b : Nat} {t : TypeId} {x0 u0 : Value} (hb : Whole w b t #[x0]) : Whole (w.setCell ⟨b, 0, none⟩ u0) b t #[u0] ∧ w.grownBy (w.setCell ⟨b, 0, none⟩ u0) (some b) := ⟨(hb.put 0 u0), (gb_put (p := ⟨b, 0, none⟩) (gb_refl w _) (.inl rfl) u0)⟩
theorem put2 {w : World} {b : Nat} {t : TypeId} {x0 x1 u0 u1 : Value} (hb : Whole w b t #[x0, x1]) : Whole ((w.setCell ⟨b, 0, none⟩ u0).setCell ⟨b, 1, none⟩ u1) b t #[u0, u1] ∧ w.grownBy ((w.setCell ⟨b, 0, none⟩ u0).setCell ⟨b, 1, none⟩ u1) (some b) := ⟨((hb.put 0 u0).put 1 u1), (gb_put (p := ⟨b, 1, none⟩) (gb_put (p := ⟨b, 0, none⟩) (gb_refl w _) (.inl rfl) u0) (.inl rfl) u1)⟩
theorem put4 {w : World} {b : Nat} {t : TypeId} {x0 x1 x2 x3 u0 u1 u2 u3 : Value} (hb : Whole w b t #[x0, x1, x2, x3]) : Whole ((((w.setCell ⟨b, 0, none⟩ u0).setCell ⟨b, 1, none⟩ u1).setCell ⟨b, 2, none⟩ u2).setCell ⟨b, 3, none⟩ u3) b t #[u0, u1, u2, u3] ∧ w.grownBy ((((w.setCell ⟨b, 0, none⟩ u0).setCell ⟨b, 1, none⟩ u1).setCell ⟨b, 2, none⟩ u2).setCell ⟨b, 3, none⟩ u3) (some b) := ⟨((((hb.put 0 u0).put 1 u1).put 2 u2).put 3 u3), (gb_put (p := ⟨b, 3, none⟩) (gb_put (p := ⟨b, 2, none⟩) (gb_put (p := ⟨b, 1, none⟩) (gb_put (p := ⟨b, 0, none⟩) (gb_refl w _) (.inl rfl) u0) (.inl rfl) u1) (.inl rfl) u2) (.inl rfl) u3)⟩
end Go.Proofs.YtihpnplfklbgjaaDoor

/- A region that draws its order, walked step by step: what is held of the world may grow on the way. -/
namespace Go.Proofs.YtihpnplfklbgjaaDoor
set_option linter.unusedVariables false
open Go.RowKit

section
variable {P : Program} {ops : Array Oper} {Q : Exit → Act → World → Prop} {md : Region.Mode} {S S' : World → Prop}
/-- More may be held from here on. -/
theorem held_imp (hS : ∀ w, S' w → S w) : ∀ (fuel : Nat) (listed : Array Bool) (a : Act) (w : World), wpAnyH P md ops Q S' fuel listed a w → wpAnyH P md ops Q S fuel listed a w
  | 0, _, _, _, h => h
  | fuel + 1, _, _, _, h => ⟨h.1, fun i hi => wpOp_mono (fun _ _ h2 => ⟨hS _ h2.1, held_imp hS fuel _ _ _ h2.2⟩) (h.2 i hi)⟩
/-- Operation i first: it yields v in every world of which S is held. -/
theorem heldTake {i : Nat} {oi : Oper} {v : Value} {fuel : Nat} {listed : Array Bool} {a : Act} {w : World} (hi : ops[i]? = some oi)
    (hs : Region.noSelect ops = true) (hf : Region.free md ops listed i = true) (hr : (Region.ready md ops listed).contains i = true)
    (hS : S w) (hy : YieldsIf P ops S oi v a)
    (h : wpAnyH P md ops (NoPanic Q) S fuel (listed.setIfInBounds i true) (a.put oi.dst v) w) : wpAnyH P md ops (NoPanic Q) S (fuel + 1) listed a w :=
  wpAnyH_take hi hs hf hr (fun _ _ _ h => h) hy hS h
end

/-- Bytes handed back that stay what they are. -/
def Stays (A : Option Addr) (_c : Nat) (l : List UInt8) (W : World) : Prop := ∃ B, B ≤ W.heap.size ∧ Lies W B A (cells (nums l))
theorem Stays.on {A : Option Addr} {c : Nat} {l : List UInt8} {w1 w2 : World} (h : Stays A c l w1) (hb : Below w1.heap.size w1 w2) : Stays A c l w2 := by
  obtain ⟨B, h1, h2⟩ := h
  exact ⟨B, Nat.le_trans h1 hb.size, h2.below hb h1⟩
theorem Stays.str {A : Option Addr} {c : Nat} {l : List UInt8} {w : World} (h : Stays A c l w) (hl : 0 < l.length) :
    ∀ dst, Tryd.prog.underlying dst = some .string → (convert 29 dst (.slice A l.length c)).run Tryd.prog w = .ok (.string (S l)) w := by
  obtain ⟨B, _, h2⟩ := h
  exact str_lies' h2 hl c
/-- Calls that leave what there was, where a fact is held that stays as long as nothing old turns. -/
theorem held_any {T : World → Prop} (hT : ∀ W W', T W → Below W.heap.size W W' → T W') {K : Nat} {args : Array Value} {R : Ending → Prop} (hN : ∀ w, Calls Tryd.prog K args w fun e w' => R e ∧ Below w.heap.size w w') {W : World} (h : T W) :
    Calls Tryd.prog K args W fun e w' => R e ∧ T w' := (hN W).mono fun _ _ ⟨h1, h2⟩ => ⟨h1, hT _ _ h h2⟩
/-- The callee hands bytes back. -/
theorem held_any_bytes {T : World → Prop} (hT : ∀ W W', T W → Below W.heap.size W W' → T W') {K : Nat} {args : Array Value} {l : List UInt8} (hN : ∀ w, Calls Tryd.prog K args w (BytesL l w)) (hl : 0 < l.length) {W : World} (h : T W) :
    Calls Tryd.prog K args W fun e w' => ∃ A c, e = .returned (.slice A l.length c) ∧ T w' ∧ Stays A c l w' ∧ (∀ dst, Tryd.prog.underlying dst = some .string → (convert 29 dst (.slice A l.length c)).run Tryd.prog w' = .ok (.string (S l)) w') :=
  (hN W).mono fun _ _ ⟨_, h1, h2, h3⟩ => by
    obtain ⟨A, c, rfl, h4⟩ := h2.lies
    exact ⟨A, c, h1, hT _ _ h h3, ⟨_, Nat.le_refl _, h4⟩, Stays.str ⟨_, Nat.le_refl _, h4⟩ hl⟩
/-- The bytes stay too. -/
theorem held_any2 {T : World → Prop} (hT : ∀ W W', T W → Below W.heap.size W W' → T W') {A : Option Addr} {c : Nat} {l : List UInt8} (hl : 0 < l.length) {K : Nat} {args : Array Value} {R : Ending → Prop} (hN : ∀ w, Calls Tryd.prog K args w fun e w' => R e ∧ Below w.heap.size w w') {W : World}
    (h : T W ∧ Stays A c l W ∧ (∀ dst, Tryd.prog.underlying dst = some .string → (convert 29 dst (.slice A l.length c)).run Tryd.prog W = .ok (.string (S l)) W)) :
    Calls Tryd.prog K args W fun e w' => R e ∧ T w' ∧ Stays A c l w' ∧ (∀ dst, Tryd.prog.underlying dst = some .string → (convert 29 dst (.slice A l.length c)).run Tryd.prog w' = .ok (.string (S l)) w') :=
  (hN W).mono fun _ _ ⟨h1, h2⟩ => ⟨h1, hT _ _ h.1 h2, h.2.1.on h2, (h.2.1.on h2).str hl⟩
end Go.Proofs.YtihpnplfklbgjaaDoor

/- Plain mathematics: the groups of seven bits of a number, its bits, where a varint ends. Of no program. -/
namespace Go.Proofs.YtihpnplfklbgjaaDoor
set_option linter.unusedVariables false

/-- Bit j of a number, of endless two's complement. -/
def bit (x : Int) (j : Nat) : Bool := x / 2 ^ j % 2 == 1

/-- The first n groups of seven bits, each but the last with 128. -/
def grp (x : Int) (n : Nat) : List Int := (List.range n).map fun i => x / 128 ^ i % 128 + if i + 1 < n then 128 else 0
/-- The first n groups, all of them with 128. -/
def grps (x : Int) (n : Nat) : List Int := (List.range n).map fun i => x / 128 ^ i % 128 + 128

theorem grp_length (x : Int) (n : Nat) : (grp x n).length = n := by simp [grp]
theorem grps_length (x : Int) (n : Nat) : (grps x n).length = n := by simp [grps]
theorem grps_snoc (x : Int) (n : Nat) : grps x (n + 1) = grps x n ++ [x / 128 ^ n % 128 + 128] := by simp [grps, List.range_succ]
theorem grp_snoc (x : Int) (n : Nat) : grp x (n + 1) = grps x n ++ [x / 128 ^ n % 128] := by
  unfold grp grps
  rw [List.range_succ, List.map_append]
  congr 1
  · apply List.map_congr_left
    intro i hi
    have := List.mem_range.1 hi
    rw [if_pos (by omega)]
  · simp
theorem grps_get (x : Int) (n i : Nat) (h : i < n) : (grps x n)[i]? = some (x / 128 ^ i % 128 + 128) := by simp [grps, h]

/-- The least number from 1 on at which F holds. -/
def Least (F : Nat → Prop) (n : Nat) : Prop := 1 ≤ n ∧ F n ∧ ∀ m, 1 ≤ m → m < n → ¬ F m
theorem Least.unique {F : Nat → Prop} {n m : Nat} (h : Least F n) (k : Least F m) : n = m := by
  rcases Nat.lt_trichotomy n m with g | g | g
  · exact absurd h.2.1 (k.2.2 n h.1 g)
  · exact g
  · exact absurd k.2.1 (h.2.2 m k.1 g)
theorem Least.le {F : Nat → Prop} {n m : Nat} (h : Least F n) (hm : 1 ≤ m) (hF : F m) : n ≤ m := by
  rcases Nat.lt_or_ge m n with g | g
  · exact absurd hF (h.2.2 m hm g)
  · exact g

/-- n groups are enough: without a sign, with one. -/
def fitU (x : Int) (n : Nat) : Prop := x / 128 ^ (n - 1) < 128
def fitS (x : Int) (n : Nat) : Prop := -64 ≤ x / 128 ^ (n - 1) ∧ x / 128 ^ (n - 1) < 64

theorem p2 (n : Nat) : (0 : Int) < 2 ^ n := Int.pow_pos (by omega)
theorem p128 (n : Nat) : (0 : Int) < 128 ^ n := Int.pow_pos (by omega)
theorem mono2 {a b : Nat} (h : a ≤ b) : (2 : Int) ^ a ≤ 2 ^ b := by
  have e : (2 : Int) ^ b = 2 ^ a * 2 ^ (b - a) := by rw [← Int.pow_add]; congr 1; omega
  have := Int.mul_le_mul_of_nonneg_left (show (1 : Int) ≤ 2 ^ (b - a) from p2 _) (Int.le_of_lt (p2 a))
  rw [e]; omega
theorem mono128 {a b : Nat} (h : a ≤ b) : (128 : Int) ^ a ≤ 128 ^ b := by
  have e : (128 : Int) ^ b = 128 ^ a * 128 ^ (b - a) := by rw [← Int.pow_add]; congr 1; omega
  have := Int.mul_le_mul_of_nonneg_left (show (1 : Int) ≤ 128 ^ (b - a) from p128 _) (Int.le_of_lt (p128 a))
  rw [e]; omega
theorem pow7 (n : Nat) : (2 : Int) ^ (7 * n) = 128 ^ n := by rw [Int.pow_mul]; rfl
theorem div_pow (x : Int) (a b : Nat) : x / 2 ^ a / 2 ^ b = x / 2 ^ (a + b) := by
  rw [Int.pow_add, Int.ediv_ediv_of_nonneg (Int.le_of_lt (p2 a))]
theorem div_pow128 (x : Int) (a b : Nat) : x / 128 ^ a / 128 ^ b = x / 128 ^ (a + b) := by
  rw [Int.pow_add, Int.ediv_ediv_of_nonneg (Int.le_of_lt (p128 a))]
theorem bit_div (x : Int) (a j : Nat) : bit (x / 2 ^ a) j = bit x (a + j) := by unfold bit; rw [div_pow]
theorem bit_zero (j : Nat) : bit 0 j = false := by simp [bit]
theorem neg_one_div (j : Nat) : (-1 : Int) / 2 ^ j = -1 := by
  have := p2 j
  rw [Int.ediv_eq_iff_of_pos this]
  constructor <;> omega
theorem bit_neg (j : Nat) : bit (-1) j = true := by unfold bit; rw [neg_one_div]; rfl

theorem fitU_ten (x : Int) (h : x < 18446744073709551616) : fitU x 10 := by
  show x / 9223372036854775808 < 128
  omega
theorem fitS_ten (x : Int) (h0 : -9223372036854775808 ≤ x) (h : x < 9223372036854775808) : fitS x 10 := by
  show -64 ≤ x / 9223372036854775808 ∧ x / 9223372036854775808 < 64
  omega

theorem two_bounds {m : Nat} {y : Int} (h1 : -2 ^ (m + 1) ≤ y) (h2 : y < 2 ^ (m + 1)) : -2 ^ m ≤ y / 2 ∧ y / 2 < 2 ^ m := by
  rw [Int.pow_succ] at h1 h2
  omega
/-- All bits up to one above the number are the same: it is 0 or -1. -/
theorem same_bits : ∀ (m : Nat) (y : Int) (t : Bool), -2 ^ m ≤ y → y < 2 ^ m → (∀ j, j ≤ m → bit y j = t) → y = if t then -1 else 0
  | 0, y, t, h1, h2, h => by
    have h0 := h 0 (Nat.le_refl _)
    simp only [Int.pow_zero] at h1 h2
    unfold bit at h0
    simp only [Int.pow_zero, Int.ediv_one] at h0
    cases t
    · have : ¬ y % 2 = 1 := by simpa using h0
      simp only [Bool.false_eq_true, if_false]; omega
    · have : y % 2 = 1 := by simpa using h0
      simp only [if_true]; omega
  | m + 1, y, t, h1, h2, h => by
    have h0 := h 0 (by omega)
    obtain ⟨g1, g2⟩ := two_bounds h1 h2
    have ih := same_bits m (y / 2) t g1 g2 (fun j hj => by
      have := h (1 + j) (by omega)
      rw [← bit_div] at this
      simpa using this)
    unfold bit at h0
    simp only [Int.pow_zero, Int.ediv_one] at h0
    cases t
    · have : ¬ y % 2 = 1 := by simpa using h0
      simp only [Bool.false_eq_true, if_false] at ih ⊢; omega
    · have : y % 2 = 1 := by simpa using h0
      simp only [if_true] at ih ⊢; omega

theorem div_bounds {x : Int} {a b : Nat} (hab : a ≤ b) (h1 : -2 ^ b ≤ x) (h2 : x < 2 ^ b) : -2 ^ (b - a) ≤ x / 2 ^ a ∧ x / 2 ^ a < 2 ^ (b - a) := by
  have e : (2 : Int) ^ b = 2 ^ (b - a) * 2 ^ a := by rw [← Int.pow_add]; congr 1; omega
  have hp := p2 a
  rw [e] at h1 h2
  refine ⟨(Int.le_ediv_iff_mul_le hp).2 ?_, (Int.ediv_lt_iff_lt_mul hp).2 h2⟩
  rw [Int.neg_mul]; exact h1
/-- All bits from a up to b are t: what is above a is 0 or -1. -/
theorem same_from {x : Int} {a b : Nat} {t : Bool} (hab : a ≤ b) (h1 : -2 ^ b ≤ x) (h2 : x < 2 ^ b) (h : ∀ j, a ≤ j → j ≤ b → bit x j = t) : x / 2 ^ a = if t then -1 else 0 := by
  obtain ⟨g1, g2⟩ := div_bounds hab h1 h2
  exact same_bits (b - a) _ t g1 g2 (fun j hj => by rw [bit_div]; exact h _ (by omega) (by omega))
theorem from_same {x : Int} {a : Nat} {t : Bool} (h : x / 2 ^ a = if t then -1 else 0) (j : Nat) (hj : a ≤ j) : bit x j = t := by
  have e : j = a + (j - a) := by omega
  rw [e, ← bit_div, h]
  cases t
  · exact bit_zero _
  · exact bit_neg _
theorem bit_high {x : Int} {b : Nat} (h0 : 0 ≤ x) (h : x < 2 ^ b) (j : Nat) (hj : b ≤ j) : bit x j = false :=
  from_same (t := false) (by simp only [Bool.false_eq_true, if_false]; exact Int.ediv_eq_zero_of_lt h0 h) j hj

/-- Without a sign: n groups are enough if no bit from 7n up to 63 is set. -/
theorem fitU_bits {x : Int} {n : Nat} (h0 : 0 ≤ x) (h1 : x < 2 ^ 64) (hn : 1 ≤ n) (hn9 : n ≤ 9) : fitU x n ↔ ∀ j, 7 * n ≤ j → j < 64 → bit x j = false := by
  have e : x / 2 ^ (7 * n) = x / 128 ^ (n - 1) / 128 := by
    rw [pow7, show n = n - 1 + 1 by omega, ← div_pow128]; rfl
  have hq : 0 ≤ x / 128 ^ (n - 1) := Int.ediv_nonneg h0 (Int.le_of_lt (p128 _))
  constructor
  · intro h j hj _
    refine from_same (a := 7 * n) (t := false) ?_ j hj
    rw [e]
    have h' : x / 128 ^ (n - 1) < 128 := h
    simp only [Bool.false_eq_true, if_false]
    omega
  · intro h
    have h2 := same_from (x := x) (a := 7 * n) (b := 64) (t := false) (by omega) (by omega) h1 (fun j hj hb => by
      rcases Nat.lt_or_ge j 64 with g | g
      · exact h j hj g
      · exact bit_high h0 h1 j g)
    rw [e] at h2
    simp only [Bool.false_eq_true, if_false] at h2
    show x / 128 ^ (n - 1) < 128
    omega
theorem div64 (x : Int) (n : Nat) (hn : 1 ≤ n) : x / 2 ^ (7 * n - 1) = x / 128 ^ (n - 1) / 64 := by
  have e : 7 * n - 1 = 7 * (n - 1) + 6 := by omega
  rw [e, ← div_pow, pow7]; rfl
/-- With a sign: n groups are enough if all bits from 7n - 1 up to 63 are the same. -/
theorem fitS_bits {x : Int} {n : Nat} (h0 : -2 ^ 63 ≤ x) (h1 : x < 2 ^ 63) (hn : 1 ≤ n) (hn9 : n ≤ 9) : fitS x n ↔ ∀ j, 7 * n - 1 ≤ j → j < 64 → bit x j = bit x 63 := by
  have e := div64 x n hn
  constructor
  · intro h j hj hj2
    obtain ⟨a1, a2⟩ : -64 ≤ x / 128 ^ (n - 1) ∧ x / 128 ^ (n - 1) < 64 := h
    have hz : x / 2 ^ (7 * n - 1) = 0 ∨ x / 2 ^ (7 * n - 1) = -1 := by rw [e]; omega
    rcases hz with hz | hz
    · rw [from_same (t := false) (by simpa using hz) j hj, from_same (t := false) (by simpa using hz) 63 (by omega)]
    · rw [from_same (t := true) (by simpa using hz) j hj, from_same (t := true) (by simpa using hz) 63 (by omega)]
  · intro h
    have h2 := same_from (x := x) (a := 7 * n - 1) (b := 63) (t := bit x 63) (by omega) h0 h1 (fun j hj hb => h j hj (by omega))
    rw [e] at h2
    show -64 ≤ x / 128 ^ (n - 1) ∧ x / 128 ^ (n - 1) < 64
    split at h2 <;> omega
/-- The number modulo a power, one bit more. -/
theorem mod_bit (x : Int) (i : Nat) : x % 2 ^ (i + 1) = x % 2 ^ i + if bit x i then 2 ^ i else 0 := by
  have hp := p2 i
  have e1 := Int.emod_def x (2 ^ i)
  have e2 := Int.emod_def x (2 ^ (i + 1))
  have e3 : x / 2 ^ (i + 1) = x / 2 ^ i / 2 := by rw [← div_pow]; rfl
  have e4 : (2 : Int) ^ (i + 1) = 2 * 2 ^ i := by rw [Int.pow_succ, Int.mul_comm]
  rw [e3, e4] at e2
  rw [e4, e2, e1]
  have h2 : x / 2 ^ i = 2 * (x / 2 ^ i / 2) + x / 2 ^ i % 2 := by omega
  have h3 : x / 2 ^ i % 2 = 0 ∨ x / 2 ^ i % 2 = 1 := by omega
  unfold bit
  generalize x / 2 ^ i / 2 = q at *
  generalize x / 2 ^ i % 2 = r at *
  rw [h2]
  by_cases hr : r = 1
  · subst hr; simp only [beq_self_eq_true, if_true]; grind
  · have : r = 0 := h3.resolve_right hr
    subst this; simp; grind
end Go.Proofs.YtihpnplfklbgjaaDoor
