/- creelref03.First. -/
import Derived.Test.YtcagnlafmakebaaDoorRefBytes
import Derived.Deep.RegionHeld3
import Derived.Lib.Strings
namespace Go.Proofs.YtcagnlafmakebaaDoor
open Go.RowKit

/-- The number out of the first byte's bits and the bytes 1 to k. -/
def part (base : Nat) (l : List UInt8) : Nat → Nat
  | 0 => base
  | k + 1 => part base l k * 64 + (l.getD (k + 1) 0).toNat % 64
theorem part_lt (base : Nat) (l : List UInt8) (h : base < 256) : ∀ k, part base l k < 256 * 64 ^ k
  | 0 => by simpa [part] using h
  | k + 1 => by
    have := part_lt base l h k
    unfold part
    rw [Nat.pow_succ]
    omega
theorem part_le {base : Nat} {l : List UInt8} {k : Nat} (h : base < 256) (hk : k ≤ 3) : part base l k ≤ 67108864 := by
  have := part_lt base l h k
  have h2 : 64 ^ k ≤ 64 ^ 3 := Nat.pow_le_pow_right (by omega) hk
  have : 256 * 64 ^ k ≤ 256 * 64 ^ 3 := Nat.mul_le_mul_left _ h2
  have : 256 * 64 ^ 3 = 67108864 := by decide
  omega
def baseOf (n : Nat) (b0 : Nat) : Nat := if n = 1 then b0 else if n = 2 then b0 % 32 else if n = 3 then b0 % 16 else b0 % 8
theorem part_val {n : Nat} {l : List UInt8} (h1 : 1 ≤ n) (h4 : n ≤ 4) : part (baseOf n (l.getD 0 0).toNat) l (n - 1) = val n l := by
  have hn : n = 1 ∨ n = 2 ∨ n = 3 ∨ n = 4 := by omega
  rcases hn with rfl | rfl | rfl | rfl <;> simp [part, baseOf, val]
theorem bytesZ_nat (n : Nat) : bytesZ (n : Int) = bytesN n := by
  unfold bytesZ
  rw [if_neg (by omega)]
  rfl
theorem S_toList (l : List UInt8) : (S l).toList = l := by rw [ByteArray.toList_eq]; exact S_list l
theorem good_bool {n : Nat} {l : List UInt8} (hn : n ≤ l.length) (h : Good n l) : ((S (bytesN (val n l))).toList == ((S l).extract 0 n).toList) = true := by
  rw [S_toList, S_extract, S_toList]
  have := h.2
  simp [this]
theorem bad_bool {n : Nat} {l : List UInt8} (hn : n ≤ l.length) (h : ¬ Good n l) : ((S (bytesN (val n l))).toList == ((S l).extract 0 n).toList) = false := by
  rw [S_toList, S_extract, S_toList]
  simp only [Nat.sub_zero, List.drop_zero, beq_eq_false_iff_ne]
  exact fun e => h ⟨hn, e⟩
theorem val_eq {k : IntKind} {a b : Int} (h : a = b) : Value.int k a = .int k b := by rw [h]
theorem two {B : Nat} {a w1 w2 : World} (h : Below B a w1) (hB : B ≤ a.heap.size) (k : Below w1.heap.size w1 w2) : Below B a w2 := h.trans (k.mono (Nat.le_trans hB h.size))
def FirstOut (l : List UInt8) (w : World) (e : Ending) (w' : World) : Prop := e = .returned (.tuple #[.int .i64 ((firstN l).1 : Int), .int .i64 ((firstN l).2 : Int)]) ∧ Below w.heap.size w w'
theorem firstOut_good {l : List UInt8} {n : Nat} {w w' : World} (h1 : 1 ≤ n) (h4 : n ≤ 4) (h : Good n l) (hb : Below w.heap.size w w') : FirstOut l w (.returned (.tuple #[.int .i64 ((val n l : Nat) : Int), .int .i64 (n : Int)])) w' := by
  unfold FirstOut
  rw [firstN_good h1 h4 h]
  exact ⟨rfl, hb⟩
theorem firstOut_none {l : List UInt8} {w w' : World} (h : ∀ n, 1 ≤ n → n ≤ 4 → ¬ Good n l) (hb : Below w.heap.size w w') : FirstOut l w (.returned (.tuple #[.int .i64 0, .int .i64 0])) w' := by
  unfold FirstOut
  rw [firstN_none h]
  exact ⟨rfl, hb⟩

set_option maxRecDepth 100000 in
set_option maxHeartbeats 2000000 in
theorem refFirst_any (l : List UInt8) (w : World) (hl : l.length ≤ 1000000) : Calls Tryd.prog 7 #[.string (S l)] w (FirstOut l w) := by
  obtain ⟨z, hz⟩ : ∃ z, S l = z := ⟨_, rfl⟩
  have hN : z.size = l.length := by rw [← hz, S_size]
  have hg : ∀ (i : Nat) (h : i < z.size), z[i] = l.getD i 0 := fun i h => by
    subst hz
    rw [S_get]
    rw [S_size] at h
    simp [List.getD, List.getElem?_eq_getElem h]
  rw [hz]
  have hz9 : z.size ≤ 1000000 := by omega
  have HZ := Lib.hid hz
  have HN := Lib.hid hN
  have HG := Lib.hid hg
  clear hz hN hg
  go_enter Tryd.func7, Tryd.ntmps7
  go_wp2
  go_loopw [4] (fun v wr => ∃ n : Int, v = .int .i64 n ∧ 1 ≤ n ∧ n ≤ 5 ∧ (∀ m : Nat, 1 ≤ m → (m : Int) < n → ¬ Good m l) ∧ Below w.heap.size w wr) (fun v _ => 5 - (intOf v).toNat)
  case atStart => exact ⟨1, rfl, by omega, by omega, fun m a b => by omega, Below.refl _ _⟩
  case round =>
    obtain ⟨n, rfl, h1, h5, hno, hbe⟩ := hrel
    have HNO := Lib.hid hno
    have HB := Lib.hid hbe
    clear hno hbe
    by_cases h4 : n ≤ 4
    · by_cases hfit : n ≤ z.size
      · have hz0 : 0 < z.size := by omega
        obtain ⟨b0, hb0⟩ : ∃ b0, z[0] = b0 := ⟨_, rfl⟩
        have lb0 := b0.toNat_lt
        have hgb : l.getD 0 0 = b0 := by rw [← hb0]; exact (HG.out 0 hz0).symm
        have HGB := Lib.hid hgb
        clear hgb
        have hn : n = 1 ∨ n = 2 ∨ n = 3 ∨ n = 4 := by omega
        rcases hn with rfl | rfl | rfl | rfl
        · have hf1 : (1 : Int) ≤ (z.size : Int) := by omega
          have hb9 : baseOf 1 b0.toNat < 256 := by unfold baseOf; simp; omega
          go_wp2
          go_loop [5, 6] (fun v i => ∃ k : Nat, i = .int .i64 ((k : Int) + 1) ∧ k + 1 ≤ 1 ∧ v = .int .i64 ((part (baseOf 1 b0.toNat) l k : Nat) : Int)) (fun _ i => 1 - (intOf i).toNat)
          case atStart => exact ⟨0, rfl, by omega, val_eq (by show _ = ((baseOf 1 b0.toNat : Nat) : Int); unfold baseOf; simp)⟩
          case round =>
            obtain ⟨k, rfl, hk, rfl⟩ := hrel
            have hp9 := part_le (l := l) hb9 (k := k) (by omega)
            by_cases hk2 : k + 1 < 1
            · omega
            · obtain rfl : k = 0 := by omega
              have hv : part (baseOf 1 b0.toNat) l 0 = val 1 l := by rw [← HGB.out]; exact part_val (n := 1) (by omega) (by omega)
              rw [hv] at hp9 ⊢
              have hk3 : decide (((0 : Nat) : Int) + 1 < 1) = false := by decide
              have hnl : 1 ≤ l.length := by have := HN.out; omega
              have hbz : bytesZ ((val 1 l : Nat) : Int) = bytesN (val 1 l) := bytesZ_nat _
              have HBZ := Lib.hid hbz
              clear hbz hv
              by_cases hg : Good 1 l
              · have he := good_bool hnl hg
                rw [HZ.out] at he
                have HGD := Lib.hid hg
                clear hg
                generalize hq : val 1 l = q at *
                have HQ := Lib.hid hq
                clear hq
                go_wp2_with fail
                go_region_held3 (fun _ => True) (trivial) ((go_at_call 11; refine (bytes_any _ _).mono ?_; intro e w' hb; have hb0 := hb.below; obtain ⟨rfl, _⟩ := hb; rw [HBZ.out]; have HB2 := Lib.hid hb0; clear hb0))
                all_goals
                  go_wp2
                  go_ret2
                  exact (HQ.out ▸ firstOut_good (n := 1) (by omega) (by omega) HGD.out (two HB.out.drew (Nat.le_refl _) HB2.out))
              · have he := bad_bool hnl hg
                rw [HZ.out] at he
                have F : ∀ m : Nat, 1 ≤ m → (m : Int) < 1 + 1 → ¬ Good m l := fun m a b g => by
                  by_cases hm : (m : Int) < 1
                  · exact HNO.out m a hm g
                  · obtain rfl : m = 1 := by omega
                    exact hg g
                have HF := Lib.hid F
                clear F hg
                generalize hq : val 1 l = q at *
                go_wp2_with fail
                go_region_held3 (fun _ => True) (trivial) ((go_at_call 11; refine (bytes_any _ _).mono ?_; intro e w' hb; have hb0 := hb.below; obtain ⟨rfl, _⟩ := hb; rw [HBZ.out]; have HB2 := Lib.hid hb0; clear hb0))
                all_goals
                  go_wp2
                  go_roundw
                  case rel => exact ⟨2, rfl, by omega, by omega, HF.out, two HB.out.drew (Nat.le_refl _) HB2.out⟩
                  case measure => simp [intOf]
        · have hf1 : (2 : Int) ≤ (z.size : Int) := by omega
          have hb9 : baseOf 2 b0.toNat < 256 := by unfold baseOf; simp; omega
          go_wp2
          go_loop [5, 6] (fun v i => ∃ k : Nat, i = .int .i64 ((k : Int) + 1) ∧ k + 1 ≤ 2 ∧ v = .int .i64 ((part (baseOf 2 b0.toNat) l k : Nat) : Int)) (fun _ i => 2 - (intOf i).toNat)
          case atStart => exact ⟨0, rfl, by omega, val_eq (by show _ = ((baseOf 2 b0.toNat : Nat) : Int); unfold baseOf; simp)⟩
          case round =>
            obtain ⟨k, rfl, hk, rfl⟩ := hrel
            have hp9 := part_le (l := l) hb9 (k := k) (by omega)
            by_cases hk2 : k + 1 < 2
            · have hkz : k + 1 < z.size := by omega
              obtain ⟨x, hx⟩ : ∃ x, z[k + 1] = x := ⟨_, rfl⟩
              have lx := x.toNat_lt
              have hpart : part (baseOf 2 b0.toNat) l (k + 1) = part (baseOf 2 b0.toNat) l k * 64 + x.toNat % 64 := by
                rw [← hx, HG.out (k + 1) hkz]; rfl
              have HP := Lib.hid hpart
              clear hpart
              generalize hq : part (baseOf 2 b0.toNat) l k = q at *
              have HQ := Lib.hid hq
              clear hq
              go_wp2
              go_round
              case rel => exact ⟨k + 1, by go_num, by omega, val_eq (by rw [HP.out]; omega)⟩
              case measure => simp [intOf]; omega
            · obtain rfl : k = 1 := by omega
              have hv : part (baseOf 2 b0.toNat) l 1 = val 2 l := by rw [← HGB.out]; exact part_val (n := 2) (by omega) (by omega)
              rw [hv] at hp9 ⊢
              have hk3 : decide (((1 : Nat) : Int) + 1 < 2) = false := by decide
              have hnl : 2 ≤ l.length := by have := HN.out; omega
              have hbz : bytesZ ((val 2 l : Nat) : Int) = bytesN (val 2 l) := bytesZ_nat _
              have HBZ := Lib.hid hbz
              clear hbz hv
              by_cases hg : Good 2 l
              · have he := good_bool hnl hg
                rw [HZ.out] at he
                have HGD := Lib.hid hg
                clear hg
                generalize hq : val 2 l = q at *
                have HQ := Lib.hid hq
                clear hq
                go_wp2_with fail
                go_region_held3 (fun _ => True) (trivial) ((go_at_call 11; refine (bytes_any _ _).mono ?_; intro e w' hb; have hb0 := hb.below; obtain ⟨rfl, _⟩ := hb; rw [HBZ.out]; have HB2 := Lib.hid hb0; clear hb0))
                all_goals
                  go_wp2
                  go_ret2
                  exact (HQ.out ▸ firstOut_good (n := 2) (by omega) (by omega) HGD.out (two HB.out.drew (Nat.le_refl _) HB2.out))
              · have he := bad_bool hnl hg
                rw [HZ.out] at he
                have F : ∀ m : Nat, 1 ≤ m → (m : Int) < 2 + 1 → ¬ Good m l := fun m a b g => by
                  by_cases hm : (m : Int) < 2
                  · exact HNO.out m a hm g
                  · obtain rfl : m = 2 := by omega
                    exact hg g
                have HF := Lib.hid F
                clear F hg
                generalize hq : val 2 l = q at *
                go_wp2_with fail
                go_region_held3 (fun _ => True) (trivial) ((go_at_call 11; refine (bytes_any _ _).mono ?_; intro e w' hb; have hb0 := hb.below; obtain ⟨rfl, _⟩ := hb; rw [HBZ.out]; have HB2 := Lib.hid hb0; clear hb0))
                all_goals
                  go_wp2
                  go_roundw
                  case rel => exact ⟨3, rfl, by omega, by omega, HF.out, two HB.out.drew (Nat.le_refl _) HB2.out⟩
                  case measure => simp [intOf]
        · have hf1 : (3 : Int) ≤ (z.size : Int) := by omega
          have hb9 : baseOf 3 b0.toNat < 256 := by unfold baseOf; simp; omega
          go_wp2
          go_loop [5, 6] (fun v i => ∃ k : Nat, i = .int .i64 ((k : Int) + 1) ∧ k + 1 ≤ 3 ∧ v = .int .i64 ((part (baseOf 3 b0.toNat) l k : Nat) : Int)) (fun _ i => 3 - (intOf i).toNat)
          case atStart => exact ⟨0, rfl, by omega, val_eq (by show _ = ((baseOf 3 b0.toNat : Nat) : Int); unfold baseOf; simp)⟩
          case round =>
            obtain ⟨k, rfl, hk, rfl⟩ := hrel
            have hp9 := part_le (l := l) hb9 (k := k) (by omega)
            by_cases hk2 : k + 1 < 3
            · have hkz : k + 1 < z.size := by omega
              obtain ⟨x, hx⟩ : ∃ x, z[k + 1] = x := ⟨_, rfl⟩
              have lx := x.toNat_lt
              have hpart : part (baseOf 3 b0.toNat) l (k + 1) = part (baseOf 3 b0.toNat) l k * 64 + x.toNat % 64 := by
                rw [← hx, HG.out (k + 1) hkz]; rfl
              have HP := Lib.hid hpart
              clear hpart
              generalize hq : part (baseOf 3 b0.toNat) l k = q at *
              have HQ := Lib.hid hq
              clear hq
              go_wp2
              go_round
              case rel => exact ⟨k + 1, by go_num, by omega, val_eq (by rw [HP.out]; omega)⟩
              case measure => simp [intOf]; omega
            · obtain rfl : k = 2 := by omega
              have hv : part (baseOf 3 b0.toNat) l 2 = val 3 l := by rw [← HGB.out]; exact part_val (n := 3) (by omega) (by omega)
              rw [hv] at hp9 ⊢
              have hk3 : decide (((2 : Nat) : Int) + 1 < 3) = false := by decide
              have hnl : 3 ≤ l.length := by have := HN.out; omega
              have hbz : bytesZ ((val 3 l : Nat) : Int) = bytesN (val 3 l) := bytesZ_nat _
              have HBZ := Lib.hid hbz
              clear hbz hv
              by_cases hg : Good 3 l
              · have he := good_bool hnl hg
                rw [HZ.out] at he
                have HGD := Lib.hid hg
                clear hg
                generalize hq : val 3 l = q at *
                have HQ := Lib.hid hq
                clear hq
                go_wp2_with fail
                go_region_held3 (fun _ => True) (trivial) ((go_at_call 11; refine (bytes_any _ _).mono ?_; intro e w' hb; have hb0 := hb.below; obtain ⟨rfl, _⟩ := hb; rw [HBZ.out]; have HB2 := Lib.hid hb0; clear hb0))
                all_goals
                  go_wp2
                  go_ret2
                  exact (HQ.out ▸ firstOut_good (n := 3) (by omega) (by omega) HGD.out (two HB.out.drew (Nat.le_refl _) HB2.out))
              · have he := bad_bool hnl hg
                rw [HZ.out] at he
                have F : ∀ m : Nat, 1 ≤ m → (m : Int) < 3 + 1 → ¬ Good m l := fun m a b g => by
                  by_cases hm : (m : Int) < 3
                  · exact HNO.out m a hm g
                  · obtain rfl : m = 3 := by omega
                    exact hg g
                have HF := Lib.hid F
                clear F hg
                generalize hq : val 3 l = q at *
                go_wp2_with fail
                go_region_held3 (fun _ => True) (trivial) ((go_at_call 11; refine (bytes_any _ _).mono ?_; intro e w' hb; have hb0 := hb.below; obtain ⟨rfl, _⟩ := hb; rw [HBZ.out]; have HB2 := Lib.hid hb0; clear hb0))
                all_goals
                  go_wp2
                  go_roundw
                  case rel => exact ⟨4, rfl, by omega, by omega, HF.out, two HB.out.drew (Nat.le_refl _) HB2.out⟩
                  case measure => simp [intOf]
        · have hf1 : (4 : Int) ≤ (z.size : Int) := by omega
          have hb9 : baseOf 4 b0.toNat < 256 := by unfold baseOf; simp; omega
          go_wp2
          go_loop [5, 6] (fun v i => ∃ k : Nat, i = .int .i64 ((k : Int) + 1) ∧ k + 1 ≤ 4 ∧ v = .int .i64 ((part (baseOf 4 b0.toNat) l k : Nat) : Int)) (fun _ i => 4 - (intOf i).toNat)
          case atStart => exact ⟨0, rfl, by omega, val_eq (by show _ = ((baseOf 4 b0.toNat : Nat) : Int); unfold baseOf; simp)⟩
          case round =>
            obtain ⟨k, rfl, hk, rfl⟩ := hrel
            have hp9 := part_le (l := l) hb9 (k := k) (by omega)
            by_cases hk2 : k + 1 < 4
            · have hkz : k + 1 < z.size := by omega
              obtain ⟨x, hx⟩ : ∃ x, z[k + 1] = x := ⟨_, rfl⟩
              have lx := x.toNat_lt
              have hpart : part (baseOf 4 b0.toNat) l (k + 1) = part (baseOf 4 b0.toNat) l k * 64 + x.toNat % 64 := by
                rw [← hx, HG.out (k + 1) hkz]; rfl
              have HP := Lib.hid hpart
              clear hpart
              generalize hq : part (baseOf 4 b0.toNat) l k = q at *
              have HQ := Lib.hid hq
              clear hq
              go_wp2
              go_round
              case rel => exact ⟨k + 1, by go_num, by omega, val_eq (by rw [HP.out]; omega)⟩
              case measure => simp [intOf]; omega
            · obtain rfl : k = 3 := by omega
              have hv : part (baseOf 4 b0.toNat) l 3 = val 4 l := by rw [← HGB.out]; exact part_val (n := 4) (by omega) (by omega)
              rw [hv] at hp9 ⊢
              have hk3 : decide (((3 : Nat) : Int) + 1 < 4) = false := by decide
              have hnl : 4 ≤ l.length := by have := HN.out; omega
              have hbz : bytesZ ((val 4 l : Nat) : Int) = bytesN (val 4 l) := bytesZ_nat _
              have HBZ := Lib.hid hbz
              clear hbz hv
              by_cases hg : Good 4 l
              · have he := good_bool hnl hg
                rw [HZ.out] at he
                have HGD := Lib.hid hg
                clear hg
                generalize hq : val 4 l = q at *
                have HQ := Lib.hid hq
                clear hq
                go_wp2_with fail
                go_region_held3 (fun _ => True) (trivial) ((go_at_call 11; refine (bytes_any _ _).mono ?_; intro e w' hb; have hb0 := hb.below; obtain ⟨rfl, _⟩ := hb; rw [HBZ.out]; have HB2 := Lib.hid hb0; clear hb0))
                all_goals
                  go_wp2
                  go_ret2
                  exact (HQ.out ▸ firstOut_good (n := 4) (by omega) (by omega) HGD.out (two HB.out.drew (Nat.le_refl _) HB2.out))
              · have he := bad_bool hnl hg
                rw [HZ.out] at he
                have F : ∀ m : Nat, 1 ≤ m → (m : Int) < 4 + 1 → ¬ Good m l := fun m a b g => by
                  by_cases hm : (m : Int) < 4
                  · exact HNO.out m a hm g
                  · obtain rfl : m = 4 := by omega
                    exact hg g
                have HF := Lib.hid F
                clear F hg
                generalize hq : val 4 l = q at *
                go_wp2_with fail
                go_region_held3 (fun _ => True) (trivial) ((go_at_call 11; refine (bytes_any _ _).mono ?_; intro e w' hb; have hb0 := hb.below; obtain ⟨rfl, _⟩ := hb; rw [HBZ.out]; have HB2 := Lib.hid hb0; clear hb0))
                all_goals
                  go_wp2
                  go_roundw
                  case rel => exact ⟨5, rfl, by omega, by omega, HF.out, two HB.out.drew (Nat.le_refl _) HB2.out⟩
                  case measure => simp [intOf]
      · have hd : decide (n ≤ (z.size : Int)) = false := by simp; omega
        have F : ∀ m, 1 ≤ m → m ≤ 4 → ¬ Good m l := fun m a b g => by
          by_cases hm : (m : Int) < n
          · exact HNO.out m a hm g
          · have := g.1; have := HN.out; omega
        have HF := Lib.hid F
        clear F
        go_wp2
        go_ret2
        exact firstOut_none HF.out HB.out
    · have hd : decide (n ≤ 4) = false := by simp; omega
      have F : ∀ m : Nat, 1 ≤ m → m ≤ 4 → ¬ Good m l := fun m a b => HNO.out m a (by omega)
      have HF := Lib.hid F
      clear F
      go_wp2
      go_ret2
      exact firstOut_none HF.out HB.out
end Go.Proofs.YtcagnlafmakebaaDoor
