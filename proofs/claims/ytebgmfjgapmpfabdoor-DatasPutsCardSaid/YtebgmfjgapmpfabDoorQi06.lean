/- The reference's Types, Float, Check. -/
import Derived.Test.YtebgmfjgapmpfabDoorQi05
import Derived.RegionTactic
import Derived.ChangeAlike
import Derived.Test.YtebgmfjgapmpfabDoorQi01
namespace Go.Proofs.YtebgmfjgapmpfabDoor
set_option linter.unusedVariables false
open Go.RowKit

theorem letters_snoc (s : List UInt8) (k : Nat) (h : k < s.length) : lettersR (s.take (k + 1)) = lettersR (s.take k) ++ [if s[k] = 119 then 127 else 126] := by
  unfold lettersR
  rw [List.take_succ_eq_append_getElem h, List.map_append]
  rfl
theorem str_add {a b c : List UInt8} {x : ByteArray} (hx : x = S b) (h : c = a ++ b) : Value.string (S a ++ x) = .string (S c) := by rw [hx, S_append, h]
/-- The reference's table of floats. -/
def floatArr : Array Value := (floatsL.flatMap fun p => [.int .i64 p.1, .int .i64 p.2]).toArray
theorem float_get : ∀ j, j < 7 → floatArr[2 * j]? = some (.int .i64 ((floatsL.getD j (0, 0)).1 : Nat)) ∧ floatArr[2 * j + 1]? = some (.int .i64 ((floatsL.getD j (0, 0)).2 : Nat)) := by
  intro j hj
  match j, hj with
  | 0, _ => exact ⟨rfl, rfl⟩
  | 1, _ => exact ⟨rfl, rfl⟩
  | 2, _ => exact ⟨rfl, rfl⟩
  | 3, _ => exact ⟨rfl, rfl⟩
  | 4, _ => exact ⟨rfl, rfl⟩
  | 5, _ => exact ⟨rfl, rfl⟩
  | 6, _ => exact ⟨rfl, rfl⟩
def InPair (n j : Nat) : Prop := (floatsL.getD j (0, 0)).1 ≤ n ∧ n ≤ (floatsL.getD j (0, 0)).2
theorem float_yes {n j : Nat} (hj : j < 7) (h : InPair n j) : refFloat n = true := by
  unfold refFloat
  rw [List.any_eq_true]
  refine ⟨floatsL.getD j (0, 0), ?_, decide_eq_true h⟩
  rw [List.getD, List.getElem?_eq_getElem (show j < floatsL.length from hj)]
  exact List.getElem_mem _
theorem float_no {n : Nat} (h : ∀ j, j < 7 → ¬ InPair n j) : refFloat n = false := by
  unfold refFloat
  rw [List.any_eq_false]
  intro p hp
  obtain ⟨j, hj, rfl⟩ := List.getElem_of_mem hp
  have := h j hj
  unfold InPair at this
  rw [List.getD, List.getElem?_eq_getElem hj] at this
  simpa using this
set_option maxRecDepth 100000 in
theorem refFloat_any (n : Nat) (w : World) (hn : n ≤ 255) : Calls Tryd.prog 84 #[.int .i64 n] w fun e w' => e = .returned (.bool (refFloat n)) ∧ Below w.heap.size w w' := by
  obtain ⟨b, hb⟩ : ∃ b, b = refFloat n := ⟨_, rfl⟩
  have HB := Lib.hid hb
  rw [← hb]
  clear hb
  go_enter Tryd.func84, Tryd.ntmps84
  go_wp2_with (refine Go.Great.wpList_buildSliceTo rfl 147 3 14 _ rfl _ rfl _ rfl Tryd.underlying147 floatArr (by kernel_rfl) ?_)
  obtain ⟨w1, hw1⟩ : ∃ w1, w1 = w.alloc (.cells floatArr 3) := ⟨_, rfl⟩
  have HW := Lib.hid (show Whole w1 w.heap.size 3 floatArr by rw [hw1]; exact Whole.made w _ _)
  have HL := Lib.hid (show Below w.heap.size w w1 by rw [hw1]; exact (Below.refl _ _).alloc (Nat.le_refl _) _)
  rw [← hw1]
  clear hw1
  go_loop [4] (fun i => ∃ j k : Nat, k ≤ 14 ∧ k = 2 * j ∧ i = .int .i64 k ∧ Hid (∀ q, q < j → ¬ InPair n q)) (fun i => 14 - (intOf i).toNat)
  case atStart => exact ⟨0, 0, by omega, rfl, rfl, Lib.hid (fun q hq => by omega)⟩
  case round =>
    obtain ⟨j, k, hk, hkj, rfl, HN⟩ := hrel
    by_cases hlt : k < 14
    · have hj : j < 7 := by omega
      obtain ⟨g0, g1⟩ := float_get j hj
      rw [← hkj] at g0 g1
      have c0 := (HW.out.cell k).trans g0
      have c1 := (HW.out.cell (k + 1)).trans g1
      have hp := Lib.hid (show InPair n j ↔ (floatsL.getD j (0, 0)).1 ≤ n ∧ n ≤ (floatsL.getD j (0, 0)).2 from Iff.rfl)
      obtain ⟨p, hpe⟩ : ∃ p, p = floatsL.getD j (0, 0) := ⟨_, rfl⟩
      rw [← hpe] at c0 c1 hp
      clear g0 g1 hpe
      have HK := Lib.hid hkj
      have hk1 : k + 1 < 14 := by omega
      clear hkj
      by_cases h1 : p.1 ≤ n
      · by_cases h2 : n ≤ p.2
        · have HE := Lib.hid (show b = true by rw [HB.out]; exact float_yes hj (hp.out.2 ⟨h1, h2⟩))
          go_wp2
          go_ret
          exact ⟨ret_bool HE.out.symm, HL.out⟩
        · have HNj := Lib.hid (show ¬ InPair n j from fun e => h2 (hp.out.1 e).2)
          have d2 : decide (n ≤ p.2) = false := by simpa using h2
          go_wp2
          go_round
          case rel => exact ⟨j + 1, k + 2, by omega, by have := HK.out; omega, by go_num, Lib.hid (fun q hq => by
            rcases Nat.lt_or_ge q j with g | g
            · exact HN.out q g
            · obtain rfl : q = j := by omega
              exact HNj.out)⟩
          case measure => simp [intOf]; omega
      · have HNj := Lib.hid (show ¬ InPair n j from fun e => h1 (hp.out.1 e).1)
        have d1 : decide (p.1 ≤ n) = false := by simpa using h1
        go_wp2
        go_round
        case rel => exact ⟨j + 1, k + 2, by omega, by have := HK.out; omega, by go_num, Lib.hid (fun q hq => by
          rcases Nat.lt_or_ge q j with g | g
          · exact HN.out q g
          · obtain rfl : q = j := by omega
            exact HNj.out)⟩
        case measure => simp [intOf]; omega
    · have HE := Lib.hid (show b = false by rw [HB.out]; exact float_no (fun q hq => HN.out q (by omega)))
      go_wp2
      go_ret
      exact ⟨ret_bool HE.out.symm, HL.out⟩

theorem refCheck_any (n : Nat) (w : World) (hn : n ≤ 255) : Calls Tryd.prog 66 #[.int .i64 n] w fun e w' => e = .returned (.int .i64 (refCheck n)) ∧ Below w.heap.size w w' := by
  by_cases hf : refFloat n = true
  · have HE := Lib.hid (show refCheck n = 8 by unfold refCheck; rw [if_pos hf])
    go_enter Tryd.func66, Tryd.ntmps66
    go_wp2_with (go_at_call 84; go_must (refine (refFloat_any n _ hn).mono ?_; rintro e w1 ⟨rfl, hb1⟩; have HB1 := Lib.hid hb1; clear hb1))
    go_ret
    exact ⟨ret_int (by rw [HE.out]; rfl), HB1.out⟩
  · have hf : refFloat n = false := by simpa using hf
    by_cases hr : (refR n).isSome = true
    · have HE := Lib.hid (show refCheck n = 0 by unfold refCheck; rw [if_neg (by rw [hf]; decide), if_pos hr])
      go_enter Tryd.func66, Tryd.ntmps66
      go_wp2_with (first | (go_at_call 84; go_must (refine (refFloat_any n _ hn).mono ?_; rintro e w1 ⟨rfl, hb1⟩; have HB1 := Lib.hid hb1; have hz1 := hb1.size; clear hb1)) | (go_at_call 67; go_must (refine (ref_any n _ hn).mono ?_; rintro e w2 ⟨rfl, hb2⟩; have HB2 := Lib.hid hb2; have hz2 := hb2.size; clear hb2)))
      go_ret
      exact ⟨ret_int (by rw [HE.out]; rfl), (HB1.out.trans (HB2.out.mono hz1)).alloc (by omega) _⟩
    · have hr : (refR n).isSome = false := by simpa using hr
      have HE := Lib.hid (show refCheck n = 9 by unfold refCheck; rw [if_neg (by rw [hf]; decide), if_neg (by rw [hr]; decide)])
      go_enter Tryd.func66, Tryd.ntmps66
      go_wp2_with (first | (go_at_call 84; go_must (refine (refFloat_any n _ hn).mono ?_; rintro e w1 ⟨rfl, hb1⟩; have HB1 := Lib.hid hb1; have hz1 := hb1.size; clear hb1)) | (go_at_call 67; go_must (refine (ref_any n _ hn).mono ?_; rintro e w2 ⟨rfl, hb2⟩; have HB2 := Lib.hid hb2; have hz2 := hb2.size; clear hb2)))
      go_ret
      exact ⟨ret_int (by rw [HE.out]; rfl), (HB1.out.trans (HB2.out.mono hz1)).alloc (by omega) _⟩
end Go.Proofs.YtebgmfjgapmpfabDoor

/- AccessOf, immOf, Opens, accessTypes, typesOf, float, Check, Of. -/
namespace Go.Proofs.YtebgmfjgapmpfabDoor
set_option linter.unusedVariables false
open Go.RowKit

theorem acc_get (l : List AccR) (i : Nat) (h : i < l.length) : (accCells l)[i * 4]? = some (.int .i64 (l.getD i acc0).n) ∧ (accCells l)[i * 4 + 1]? = some (.int .u8 (l.getD i acc0).t) ∧ (accCells l)[i * 4 + 2]? = some (.bool (l.getD i acc0).wr) ∧ (accCells l)[i * 4 + 3]? = some (.bool (l.getD i acc0).sg) := by
  unfold accCells
  simp only [List.getElem?_toArray]
  induction l generalizing i with
  | nil => simp at h
  | cons x r ih =>
    cases i with
    | zero => exact ⟨rfl, rfl, rfl, rfl⟩
    | succ i =>
      have := ih i (by simpa using h)
      have e : (i + 1) * 4 = i * 4 + 1 + 1 + 1 + 1 := by omega
      rw [e]
      exact this
theorem acc_cell {w : World} (h : ∃ t fr, w.heap[6]? = some (.cells (accCells tabA) t fr)) (i : Nat) (hi : i < 23) :
    w.cell? ⟨6, i * 4, none⟩ = some (.int .i64 (tabA.getD i acc0).n) ∧ w.cell? ⟨6, i * 4 + 1, none⟩ = some (.int .u8 (tabA.getD i acc0).t) ∧
    w.cell? ⟨6, i * 4 + 2, none⟩ = some (.bool (tabA.getD i acc0).wr) ∧ w.cell? ⟨6, i * 4 + 3, none⟩ = some (.bool (tabA.getD i acc0).sg) := by
  obtain ⟨t, fr, h⟩ := h
  obtain ⟨a, b, c, d⟩ := acc_get tabA i hi
  refine ⟨?_, ?_, ?_, ?_⟩ <;> rw [cell_of_row w _ _ _ t fr h] <;> assumption
/-- What AccessOf hands back. -/
abbrev accV (n : Nat) : Value := .tuple #[.agg #[.int .i64 (accR n).n, .int .u8 (accR n).t, .bool (accR n).wr, .bool (accR n).sg], .bool (isAcc n)]
theorem access_no (n : Nat) (w : World) (hn : n ≤ 255) (h : n < 40 ∨ 63 ≤ n) : Calls Tryd.prog 112 #[.int .u8 n] w fun e w' => e = .returned (accV n) ∧ Below w.heap.size w w' := by
  have e0 : accR n = acc0 := by
    unfold accR
    split
    · rfl
    · rw [List.getD, List.getElem?_eq_none (by show 23 ≤ _; omega)]; rfl
  have e1 : isAcc n = false := by unfold isAcc; rw [e0]; rfl
  have HE := Lib.hid (show accV n = .tuple #[.agg #[.int .i64 0, .int .u8 0, .bool false, .bool false], .bool false] by unfold accV; rw [e0, e1]; rfl)
  clear e0 e1
  rcases h with h | h
  · have d0 : decide ((n : Int) - 40 < 0) = true := by simp; omega
    go_enter Tryd.func112, Tryd.ntmps112
    go_wp2
    exact bodyPost_ret (v := .tuple #[.agg #[.int .i64 0, .int .u8 0, .bool false, .bool false], .bool false]) (by simp [results, Tryd.results112, go_sem]) rfl ⟨by rw [HE.out], (Below.refl _ _).alloc (Nat.le_refl _) _⟩
  · have d0 : decide ((n : Int) - 40 < 0) = false := by simp; omega
    go_enter Tryd.func112, Tryd.ntmps112
    go_wp2
    exact bodyPost_ret (v := .tuple #[.agg #[.int .i64 0, .int .u8 0, .bool false, .bool false], .bool false]) (by simp [results, Tryd.results112, go_sem]) rfl ⟨by rw [HE.out], (Below.refl _ _).alloc (Nat.le_refl _) _⟩
theorem access_yes (n : Nat) (w : World) (hT : Tabs w) (h1 : 40 ≤ n) (h2 : n < 63) : Calls Tryd.prog 112 #[.int .u8 n] w fun e w' => e = .returned (accV n) ∧ Below w.heap.size w w' := by
  obtain ⟨c0, c1, c2, c3⟩ := acc_cell hT.hA (n - 40) (by omega)
  have e0 : accR n = tabA.getD (n - 40) acc0 := by unfold accR; rw [if_neg (by omega)]
  rw [← e0] at c0 c1 c2 c3
  have HE := Lib.hid (show isAcc n = decide (0 < (accR n).n) from rfl)
  have HV := Lib.hid (show accV n = .tuple #[.agg #[.int .i64 (accR n).n, .int .u8 (accR n).t, .bool (accR n).wr, .bool (accR n).sg], .bool (isAcc n)] from rfl)
  clear e0
  obtain ⟨a, ha⟩ : ∃ a, a = accR n := ⟨_, rfl⟩
  rw [← ha] at c0 c1 c2 c3 HE HV
  clear ha
  have hz : 6 < w.heap.size := by obtain ⟨t, fr, h⟩ := hT.hA; exact (Array.getElem?_eq_some_iff.1 h).1
  clear hT
  have d0 : decide ((n : Int) - 40 < 0) = false := by simp; omega
  have d1 : decide (23 ≤ (n : Int) - 40) = false := by simp; omega
  go_enter Tryd.func112, Tryd.ntmps112
  go_wp2
  go_region
  all_goals
    go_wp2
    exact bodyPost_ret (v := .tuple #[.agg #[.int .i64 a.n, .int .u8 a.t, .bool a.wr, .bool a.sg], .bool (decide (0 < a.n))]) (by simp [results, Tryd.results112, go_sem]) rfl ⟨by rw [HV.out, HE.out], (((Below.refl _ _).alloc (Nat.le_refl _) _).alloc (by simp) _).drew⟩
theorem access_any (n : Nat) (w : World) (hT : Tabs w) (hn : n ≤ 255) : Calls Tryd.prog 112 #[.int .u8 n] w fun e w' => e = .returned (accV n) ∧ Below w.heap.size w w' := by
  by_cases h : n < 40 ∨ 63 ≤ n
  · exact access_no n w hn h
  · exact access_yes n w hT (by omega) (by omega)

/-- What immOf and accessTypes do: a number or two strings. -/
theorem imm_const (n : Nat) (w : World) (h : n = 2 ∨ n = 3 ∨ n = 4 ∨ n = 12 ∨ n = 13 ∨ n = 14 ∨ n = 16 ∨ n = 17 ∨ n = 32 ∨ n = 33 ∨ n = 34 ∨ n = 35 ∨ n = 36 ∨ n = 63 ∨ n = 64 ∨ n = 65 ∨ n = 66) : Calls Tryd.prog 91 #[.int .u8 n] w fun e w' => e = .returned (.int .i64 (immR n)) ∧ Below w.heap.size w w' := by
  rcases h with rfl | rfl | rfl | rfl | rfl | rfl | rfl | rfl | rfl | rfl | rfl | rfl | rfl | rfl | rfl | rfl | rfl
  all_goals
    go_enter Tryd.func91, Tryd.ntmps91
    go_wp2
    go_ret
    exact ⟨rfl, Below.refl _ _⟩
set_option maxRecDepth 100000 in
theorem imm_else (n : Nat) (w : World) (hT : Tabs w) (hn : n ≤ 255) (h2 : n ≠ 2) (h3 : n ≠ 3) (h4 : n ≠ 4) (h12 : n ≠ 12) (h13 : n ≠ 13) (h14 : n ≠ 14) (h16 : n ≠ 16) (h17 : n ≠ 17) (h32 : n ≠ 32) (h33 : n ≠ 33) (h34 : n ≠ 34) (h35 : n ≠ 35) (h36 : n ≠ 36) (h63 : n ≠ 63) (h64 : n ≠ 64) (h65 : n ≠ 65) (h66 : n ≠ 66) : Calls Tryd.prog 91 #[.int .u8 n] w fun e w' => e = .returned (.int .i64 (immR n)) ∧ Below w.heap.size w w' := by
  have HE := Lib.hid (show immR n = if isAcc n = true then 8 else 0 by unfold immR; rw [if_neg (by omega), if_neg (by omega), if_neg (by omega), if_neg (by omega), if_neg (by omega), if_neg (by omega), if_neg (by omega), if_neg (by omega), if_neg (by omega), if_neg (by omega)])
  have d2 : ((n : Int) == 2) = false := by simp; omega
  have d3 : ((n : Int) == 3) = false := by simp; omega
  have d4 : ((n : Int) == 4) = false := by simp; omega
  have d12 : ((n : Int) == 12) = false := by simp; omega
  have d13 : ((n : Int) == 13) = false := by simp; omega
  have d14 : ((n : Int) == 14) = false := by simp; omega
  have d16 : ((n : Int) == 16) = false := by simp; omega
  have d17 : ((n : Int) == 17) = false := by simp; omega
  have d32 : ((n : Int) == 32) = false := by simp; omega
  have d33 : ((n : Int) == 33) = false := by simp; omega
  have d34 : ((n : Int) == 34) = false := by simp; omega
  have d35 : ((n : Int) == 35) = false := by simp; omega
  have d36 : ((n : Int) == 36) = false := by simp; omega
  have d63 : ((n : Int) == 63) = false := by simp; omega
  have d64 : ((n : Int) == 64) = false := by simp; omega
  have d65 : ((n : Int) == 65) = false := by simp; omega
  have d66 : ((n : Int) == 66) = false := by simp; omega
  clear h2 h3 h4 h12 h13 h14 h16 h17 h32 h33 h34 h35 h36 h63 h64 h65 h66
  have HT := Lib.hid hT
  clear hT
  by_cases hx : isAcc n = true
  · rw [if_pos hx] at HE
    go_enter Tryd.func91, Tryd.ntmps91
    go_wp2_with (go_at_call 112; go_must (refine (access_any n _ HT.out hn).mono ?_; rintro e w' ⟨rfl, hb⟩; have HB := Lib.hid hb; have hz := hb.size; clear hb))
    go_ret
    exact ⟨ret_int (by rw [HE.out]; rfl), HB.out.alloc hz _⟩
  · have hx : isAcc n = false := by simpa using hx
    rw [if_neg (by rw [hx]; decide)] at HE
    go_enter Tryd.func91, Tryd.ntmps91
    go_wp2_with (go_at_call 112; go_must (refine (access_any n _ HT.out hn).mono ?_; rintro e w' ⟨rfl, hb⟩; have HB := Lib.hid hb; have hz := hb.size; clear hb))
    go_ret
    exact ⟨ret_int (by rw [HE.out]; rfl), HB.out.alloc hz _⟩
theorem imm_any (n : Nat) (w : World) (hT : Tabs w) (hn : n ≤ 255) : Calls Tryd.prog 91 #[.int .u8 n] w fun e w' => e = .returned (.int .i64 (immR n)) ∧ Below w.heap.size w w' := by
  by_cases h : n = 2 ∨ n = 3 ∨ n = 4 ∨ n = 12 ∨ n = 13 ∨ n = 14 ∨ n = 16 ∨ n = 17 ∨ n = 32 ∨ n = 33 ∨ n = 34 ∨ n = 35 ∨ n = 36 ∨ n = 63 ∨ n = 64 ∨ n = 65 ∨ n = 66
  · exact imm_const n w h
  · exact imm_else n w hT hn (by omega) (by omega) (by omega) (by omega) (by omega) (by omega) (by omega) (by omega) (by omega) (by omega) (by omega) (by omega) (by omega) (by omega) (by omega) (by omega) (by omega)
theorem opens_any (n : Nat) (w : World) (hT : Tabs w) (hn : n ≤ 255) : Calls Tryd.prog 103 #[.int .u8 n] w fun e w' => e = .returned (.bool (immR n == 1)) ∧ Below w.heap.size w w' := by
  have HT := Lib.hid hT
  clear hT
  by_cases h : immR n = 1
  · have h1 : ((immR n : Int) == 1) = true := by simp; omega
    have HE := Lib.hid (show (immR n == 1) = true by simpa using h)
    clear h
    go_enter Tryd.func103, Tryd.ntmps103
    go_wp2_with (go_at_call 91; go_must (refine (imm_any n _ HT.out hn).mono ?_; rintro e w' ⟨rfl, hb⟩; have HB := Lib.hid hb; clear hb))
    go_ret
    exact ⟨ret_bool (by rw [HE.out]), HB.out⟩
  · have h1 : ((immR n : Int) == 1) = false := by simp; omega
    have HE := Lib.hid (show (immR n == 1) = false by simpa using h)
    clear h
    go_enter Tryd.func103, Tryd.ntmps103
    go_wp2_with (go_at_call 91; go_must (refine (imm_any n _ HT.out hn).mono ?_; rintro e w' ⟨rfl, hb⟩; have HB := Lib.hid hb; clear hb))
    go_ret
    exact ⟨ret_bool (by rw [HE.out]), HB.out⟩

/-- Two strings. -/
abbrev twoV (p : List UInt8 × List UInt8) : Value := .tuple #[.string (S p.1), .string (S p.2)]
theorem ret_two {a b c d : List UInt8} {p : List UInt8 × List UInt8} (h : p = (a, b)) (ha : c = a) (hb : d = b) : Ending.returned (.tuple #[.string (S c), .string (S d)]) = .returned (twoV p) := by subst ha; subst hb; subst h; rfl
def TypesPost (n : Nat) (w : World) (e : Ending) (w' : World) : Prop := e = .returned (twoV (typesR n)) ∧ Below w.heap.size w w'
theorem accTypes_any (n : Nat) (w : World) (hT : Tabs w) (hn : n ≤ 255) : Calls Tryd.prog 111 #[.int .u8 n] w fun e w' => e = .returned (twoV (accTypes n)) ∧ Below w.heap.size w w' := by
  have HT := Lib.hid hT
  clear hT
  by_cases hx : isAcc n = true
  · by_cases hw : (accR n).wr = true
    · by_cases ht : (accR n).t = 127
      · have HE := Lib.hid (show accTypes n = ([127, 127], []) by unfold accTypes; rw [if_neg (by rw [hx]; decide), if_pos hw, if_pos ht])
        have ht1 : (((accR n).t : Int) == 127) = true := by simp; omega
        clear ht
        go_enter Tryd.func111, Tryd.ntmps111
        go_wp2_with (go_at_call 112; go_must (refine (access_any n _ HT.out hn).mono ?_; rintro e w' ⟨rfl, hb⟩; have HB := Lib.hid hb; have hz := hb.size; clear hb))
        go_ret2
        exact ⟨ret_two HE.out rfl rfl, HB.out.alloc hz _⟩
      · have HE := Lib.hid (show accTypes n = ([127, 126], []) by unfold accTypes; rw [if_neg (by rw [hx]; decide), if_pos hw, if_neg ht])
        have ht1 : (((accR n).t : Int) == 127) = false := by simp; omega
        clear ht
        go_enter Tryd.func111, Tryd.ntmps111
        go_wp2_with (go_at_call 112; go_must (refine (access_any n _ HT.out hn).mono ?_; rintro e w' ⟨rfl, hb⟩; have HB := Lib.hid hb; have hz := hb.size; clear hb))
        go_ret2
        exact ⟨ret_two HE.out rfl rfl, HB.out.alloc hz _⟩
    · have hw : (accR n).wr = false := by simpa using hw
      by_cases ht : (accR n).t = 127
      · have HE := Lib.hid (show accTypes n = ([127], [127]) by unfold accTypes; rw [if_neg (by rw [hx]; decide), if_neg (by rw [hw]; decide), if_pos ht])
        have ht1 : (((accR n).t : Int) == 127) = true := by simp; omega
        clear ht
        go_enter Tryd.func111, Tryd.ntmps111
        go_wp2_with (go_at_call 112; go_must (refine (access_any n _ HT.out hn).mono ?_; rintro e w' ⟨rfl, hb⟩; have HB := Lib.hid hb; have hz := hb.size; clear hb))
        go_ret2
        exact ⟨ret_two HE.out rfl rfl, HB.out.alloc hz _⟩
      · have HE := Lib.hid (show accTypes n = ([127], [126]) by unfold accTypes; rw [if_neg (by rw [hx]; decide), if_neg (by rw [hw]; decide), if_neg ht])
        have ht1 : (((accR n).t : Int) == 127) = false := by simp; omega
        clear ht
        go_enter Tryd.func111, Tryd.ntmps111
        go_wp2_with (go_at_call 112; go_must (refine (access_any n _ HT.out hn).mono ?_; rintro e w' ⟨rfl, hb⟩; have HB := Lib.hid hb; have hz := hb.size; clear hb))
        go_ret2
        exact ⟨ret_two HE.out rfl rfl, HB.out.alloc hz _⟩
  · have hx : isAcc n = false := by simpa using hx
    have HE := Lib.hid (show accTypes n = ([], []) by unfold accTypes; rw [if_pos hx])
    go_enter Tryd.func111, Tryd.ntmps111
    go_wp2_with (go_at_call 112; go_must (refine (access_any n _ HT.out hn).mono ?_; rintro e w' ⟨rfl, hb⟩; have HB := Lib.hid hb; have hz := hb.size; clear hb))
    go_ret2
    exact ⟨ret_two HE.out rfl rfl, HB.out.alloc hz _⟩
end Go.Proofs.YtebgmfjgapmpfabDoor

/- typesOf (made by gen/genTypes.py), float, Check, Of. -/
namespace Go.Proofs.YtebgmfjgapmpfabDoor
set_option linter.unusedVariables false
open Go.RowKit

set_option maxRecDepth 100000 in
theorem types_0_63 (n : Nat) (w : World) (h : n = 63) : Calls Tryd.prog 90 #[.int .u8 n] w (TypesPost n w) := by
  have HE := Lib.hid (show typesR n = _ by unfold typesR; rw [if_pos (by omega)])
  have t0a : ((n : Int) == 63) = true := by simp; omega
  clear h
  go_enter Tryd.func90, Tryd.ntmps90
  go_wp2_with (go_at_call 110; refine (between_any _ _ _ _).mono ?_; rintro e w' ⟨rfl, rfl⟩)
  go_ret2
  exact ⟨ret_two HE.out rfl rfl, Below.refl _ _⟩
set_option maxRecDepth 100000 in
theorem types_0_65 (n : Nat) (w : World) (h : n = 65) : Calls Tryd.prog 90 #[.int .u8 n] w (TypesPost n w) := by
  have HE := Lib.hid (show typesR n = _ by unfold typesR; rw [if_pos (by omega)])
  have t0a : ((n : Int) == 63) = false := by simp; omega
  have t0b : ((n : Int) == 65) = true := by simp; omega
  clear h
  go_enter Tryd.func90, Tryd.ntmps90
  go_wp2_with (go_at_call 110; refine (between_any _ _ _ _).mono ?_; rintro e w' ⟨rfl, rfl⟩)
  go_ret2
  exact ⟨ret_two HE.out rfl rfl, Below.refl _ _⟩
set_option maxRecDepth 100000 in
theorem types_1_64 (n : Nat) (w : World) (h : n = 64) : Calls Tryd.prog 90 #[.int .u8 n] w (TypesPost n w) := by
  have HE := Lib.hid (show typesR n = _ by unfold typesR; rw [if_neg (by omega), if_pos (by omega)])
  have t0a : ((n : Int) == 63) = false := by simp; omega
  have t0b : ((n : Int) == 65) = false := by simp; omega
  have t1a : ((n : Int) == 64) = true := by simp; omega
  clear h
  go_enter Tryd.func90, Tryd.ntmps90
  go_wp2_with (go_at_call 110; refine (between_any _ _ _ _).mono ?_; rintro e w' ⟨rfl, rfl⟩)
  go_ret2
  exact ⟨ret_two HE.out rfl rfl, Below.refl _ _⟩
set_option maxRecDepth 100000 in
theorem types_2_66 (n : Nat) (w : World) (h : n = 66) : Calls Tryd.prog 90 #[.int .u8 n] w (TypesPost n w) := by
  have HE := Lib.hid (show typesR n = _ by unfold typesR; rw [if_neg (by omega), if_neg (by omega), if_pos (by omega)])
  have t0a : ((n : Int) == 63) = false := by simp; omega
  have t0b : ((n : Int) == 65) = false := by simp; omega
  have t1a : ((n : Int) == 64) = false := by simp; omega
  have t2a : ((n : Int) == 66) = true := by simp; omega
  clear h
  go_enter Tryd.func90, Tryd.ntmps90
  go_wp2_with (go_at_call 110; refine (between_any _ _ _ _).mono ?_; rintro e w' ⟨rfl, rfl⟩)
  go_ret2
  exact ⟨ret_two HE.out rfl rfl, Below.refl _ _⟩
set_option maxRecDepth 100000 in
theorem types_3_69 (n : Nat) (w : World) (h : n = 69) : Calls Tryd.prog 90 #[.int .u8 n] w (TypesPost n w) := by
  have HE := Lib.hid (show typesR n = _ by unfold typesR; rw [if_neg (by omega), if_neg (by omega), if_neg (by omega), if_pos (by omega)])
  have t0a : ((n : Int) == 63) = false := by simp; omega
  have t0b : ((n : Int) == 65) = false := by simp; omega
  have t1a : ((n : Int) == 64) = false := by simp; omega
  have t2a : ((n : Int) == 66) = false := by simp; omega
  have t3a : ((n : Int) == 69) = true := by simp; omega
  clear h
  go_enter Tryd.func90, Tryd.ntmps90
  go_wp2_with (go_at_call 110; refine (between_any _ _ _ _).mono ?_; rintro e w' ⟨rfl, rfl⟩)
  go_ret2
  exact ⟨ret_two HE.out rfl rfl, Below.refl _ _⟩
set_option maxRecDepth 100000 in
theorem types_4 (n : Nat) (w : World) (h : 70 ≤ n ∧ n ≤ 79) : Calls Tryd.prog 90 #[.int .u8 n] w (TypesPost n w) := by
  have HE := Lib.hid (show typesR n = _ by unfold typesR; rw [if_neg (by omega), if_neg (by omega), if_neg (by omega), if_neg (by omega), if_pos (by unfold between; simp; omega)])
  have t0a : ((n : Int) == 63) = false := by simp; omega
  have t0b : ((n : Int) == 65) = false := by simp; omega
  have t1a : ((n : Int) == 64) = false := by simp; omega
  have t2a : ((n : Int) == 66) = false := by simp; omega
  have t3a : ((n : Int) == 69) = false := by simp; omega
  have t4 : between n 70 79 = true := by unfold between; simp; omega
  clear h
  go_enter Tryd.func90, Tryd.ntmps90
  go_wp2_with (go_at_call 110; refine (between_any _ _ _ _).mono ?_; rintro e w' ⟨rfl, rfl⟩)
  go_ret2
  exact ⟨ret_two HE.out rfl rfl, Below.refl _ _⟩
set_option maxRecDepth 100000 in
theorem types_5_80 (n : Nat) (w : World) (h : n = 80) : Calls Tryd.prog 90 #[.int .u8 n] w (TypesPost n w) := by
  have HE := Lib.hid (show typesR n = _ by unfold typesR; rw [if_neg (by omega), if_neg (by omega), if_neg (by omega), if_neg (by omega), if_neg (by unfold between; simp; omega), if_pos (by omega)])
  have t0a : ((n : Int) == 63) = false := by simp; omega
  have t0b : ((n : Int) == 65) = false := by simp; omega
  have t1a : ((n : Int) == 64) = false := by simp; omega
  have t2a : ((n : Int) == 66) = false := by simp; omega
  have t3a : ((n : Int) == 69) = false := by simp; omega
  have t4 : between n 70 79 = false := by unfold between; simp; omega
  have t5a : ((n : Int) == 80) = true := by simp; omega
  clear h
  go_enter Tryd.func90, Tryd.ntmps90
  go_wp2_with (go_at_call 110; refine (between_any _ _ _ _).mono ?_; rintro e w' ⟨rfl, rfl⟩)
  go_ret2
  exact ⟨ret_two HE.out rfl rfl, Below.refl _ _⟩
set_option maxRecDepth 100000 in
theorem types_6 (n : Nat) (w : World) (h : 81 ≤ n ∧ n ≤ 90) : Calls Tryd.prog 90 #[.int .u8 n] w (TypesPost n w) := by
  have HE := Lib.hid (show typesR n = _ by unfold typesR; rw [if_neg (by omega), if_neg (by omega), if_neg (by omega), if_neg (by omega), if_neg (by unfold between; simp; omega), if_neg (by omega), if_pos (by unfold between; simp; omega)])
  have t0a : ((n : Int) == 63) = false := by simp; omega
  have t0b : ((n : Int) == 65) = false := by simp; omega
  have t1a : ((n : Int) == 64) = false := by simp; omega
  have t2a : ((n : Int) == 66) = false := by simp; omega
  have t3a : ((n : Int) == 69) = false := by simp; omega
  have t4 : between n 70 79 = false := by unfold between; simp; omega
  have t5a : ((n : Int) == 80) = false := by simp; omega
  have t6 : between n 81 90 = true := by unfold between; simp; omega
  clear h
  go_enter Tryd.func90, Tryd.ntmps90
  go_wp2_with (go_at_call 110; refine (between_any _ _ _ _).mono ?_; rintro e w' ⟨rfl, rfl⟩)
  go_ret2
  exact ⟨ret_two HE.out rfl rfl, Below.refl _ _⟩
set_option maxRecDepth 100000 in
theorem types_7 (n : Nat) (w : World) (h : 103 ≤ n ∧ n ≤ 105) : Calls Tryd.prog 90 #[.int .u8 n] w (TypesPost n w) := by
  have HE := Lib.hid (show typesR n = _ by unfold typesR; rw [if_neg (by omega), if_neg (by omega), if_neg (by omega), if_neg (by omega), if_neg (by unfold between; simp; omega), if_neg (by omega), if_neg (by unfold between; simp; omega), if_pos (by unfold between; simp; omega)])
  have t0a : ((n : Int) == 63) = false := by simp; omega
  have t0b : ((n : Int) == 65) = false := by simp; omega
  have t1a : ((n : Int) == 64) = false := by simp; omega
  have t2a : ((n : Int) == 66) = false := by simp; omega
  have t3a : ((n : Int) == 69) = false := by simp; omega
  have t4 : between n 70 79 = false := by unfold between; simp; omega
  have t5a : ((n : Int) == 80) = false := by simp; omega
  have t6 : between n 81 90 = false := by unfold between; simp; omega
  have t7 : between n 103 105 = true := by unfold between; simp; omega
  clear h
  go_enter Tryd.func90, Tryd.ntmps90
  go_wp2_with (go_at_call 110; refine (between_any _ _ _ _).mono ?_; rintro e w' ⟨rfl, rfl⟩)
  go_ret2
  exact ⟨ret_two HE.out rfl rfl, Below.refl _ _⟩
set_option maxRecDepth 100000 in
theorem types_8 (n : Nat) (w : World) (h : 106 ≤ n ∧ n ≤ 120) : Calls Tryd.prog 90 #[.int .u8 n] w (TypesPost n w) := by
  have HE := Lib.hid (show typesR n = _ by unfold typesR; rw [if_neg (by omega), if_neg (by omega), if_neg (by omega), if_neg (by omega), if_neg (by unfold between; simp; omega), if_neg (by omega), if_neg (by unfold between; simp; omega), if_neg (by unfold between; simp; omega), if_pos (by unfold between; simp; omega)])
  have t0a : ((n : Int) == 63) = false := by simp; omega
  have t0b : ((n : Int) == 65) = false := by simp; omega
  have t1a : ((n : Int) == 64) = false := by simp; omega
  have t2a : ((n : Int) == 66) = false := by simp; omega
  have t3a : ((n : Int) == 69) = false := by simp; omega
  have t4 : between n 70 79 = false := by unfold between; simp; omega
  have t5a : ((n : Int) == 80) = false := by simp; omega
  have t6 : between n 81 90 = false := by unfold between; simp; omega
  have t7 : between n 103 105 = false := by unfold between; simp; omega
  have t8 : between n 106 120 = true := by unfold between; simp; omega
  clear h
  go_enter Tryd.func90, Tryd.ntmps90
  go_wp2_with (go_at_call 110; refine (between_any _ _ _ _).mono ?_; rintro e w' ⟨rfl, rfl⟩)
  go_ret2
  exact ⟨ret_two HE.out rfl rfl, Below.refl _ _⟩
set_option maxRecDepth 100000 in
theorem types_9 (n : Nat) (w : World) (h : 121 ≤ n ∧ n ≤ 123) : Calls Tryd.prog 90 #[.int .u8 n] w (TypesPost n w) := by
  have HE := Lib.hid (show typesR n = _ by unfold typesR; rw [if_neg (by omega), if_neg (by omega), if_neg (by omega), if_neg (by omega), if_neg (by unfold between; simp; omega), if_neg (by omega), if_neg (by unfold between; simp; omega), if_neg (by unfold between; simp; omega), if_neg (by unfold between; simp; omega), if_pos (by unfold between; simp; omega)])
  have t0a : ((n : Int) == 63) = false := by simp; omega
  have t0b : ((n : Int) == 65) = false := by simp; omega
  have t1a : ((n : Int) == 64) = false := by simp; omega
  have t2a : ((n : Int) == 66) = false := by simp; omega
  have t3a : ((n : Int) == 69) = false := by simp; omega
  have t4 : between n 70 79 = false := by unfold between; simp; omega
  have t5a : ((n : Int) == 80) = false := by simp; omega
  have t6 : between n 81 90 = false := by unfold between; simp; omega
  have t7 : between n 103 105 = false := by unfold between; simp; omega
  have t8 : between n 106 120 = false := by unfold between; simp; omega
  have t9 : between n 121 123 = true := by unfold between; simp; omega
  clear h
  go_enter Tryd.func90, Tryd.ntmps90
  go_wp2_with (go_at_call 110; refine (between_any _ _ _ _).mono ?_; rintro e w' ⟨rfl, rfl⟩)
  go_ret2
  exact ⟨ret_two HE.out rfl rfl, Below.refl _ _⟩
set_option maxRecDepth 100000 in
theorem types_10 (n : Nat) (w : World) (h : 124 ≤ n ∧ n ≤ 138) : Calls Tryd.prog 90 #[.int .u8 n] w (TypesPost n w) := by
  have HE := Lib.hid (show typesR n = _ by unfold typesR; rw [if_neg (by omega), if_neg (by omega), if_neg (by omega), if_neg (by omega), if_neg (by unfold between; simp; omega), if_neg (by omega), if_neg (by unfold between; simp; omega), if_neg (by unfold between; simp; omega), if_neg (by unfold between; simp; omega), if_neg (by unfold between; simp; omega), if_pos (by unfold between; simp; omega)])
  have t0a : ((n : Int) == 63) = false := by simp; omega
  have t0b : ((n : Int) == 65) = false := by simp; omega
  have t1a : ((n : Int) == 64) = false := by simp; omega
  have t2a : ((n : Int) == 66) = false := by simp; omega
  have t3a : ((n : Int) == 69) = false := by simp; omega
  have t4 : between n 70 79 = false := by unfold between; simp; omega
  have t5a : ((n : Int) == 80) = false := by simp; omega
  have t6 : between n 81 90 = false := by unfold between; simp; omega
  have t7 : between n 103 105 = false := by unfold between; simp; omega
  have t8 : between n 106 120 = false := by unfold between; simp; omega
  have t9 : between n 121 123 = false := by unfold between; simp; omega
  have t10 : between n 124 138 = true := by unfold between; simp; omega
  clear h
  go_enter Tryd.func90, Tryd.ntmps90
  go_wp2_with (go_at_call 110; refine (between_any _ _ _ _).mono ?_; rintro e w' ⟨rfl, rfl⟩)
  go_ret2
  exact ⟨ret_two HE.out rfl rfl, Below.refl _ _⟩
set_option maxRecDepth 100000 in
theorem types_11_167 (n : Nat) (w : World) (h : n = 167) : Calls Tryd.prog 90 #[.int .u8 n] w (TypesPost n w) := by
  have HE := Lib.hid (show typesR n = _ by unfold typesR; rw [if_neg (by omega), if_neg (by omega), if_neg (by omega), if_neg (by omega), if_neg (by unfold between; simp; omega), if_neg (by omega), if_neg (by unfold between; simp; omega), if_neg (by unfold between; simp; omega), if_neg (by unfold between; simp; omega), if_neg (by unfold between; simp; omega), if_neg (by unfold between; simp; omega), if_pos (by omega)])
  have t0a : ((n : Int) == 63) = false := by simp; omega
  have t0b : ((n : Int) == 65) = false := by simp; omega
  have t1a : ((n : Int) == 64) = false := by simp; omega
  have t2a : ((n : Int) == 66) = false := by simp; omega
  have t3a : ((n : Int) == 69) = false := by simp; omega
  have t4 : between n 70 79 = false := by unfold between; simp; omega
  have t5a : ((n : Int) == 80) = false := by simp; omega
  have t6 : between n 81 90 = false := by unfold between; simp; omega
  have t7 : between n 103 105 = false := by unfold between; simp; omega
  have t8 : between n 106 120 = false := by unfold between; simp; omega
  have t9 : between n 121 123 = false := by unfold between; simp; omega
  have t10 : between n 124 138 = false := by unfold between; simp; omega
  have t11a : ((n : Int) == 167) = true := by simp; omega
  clear h
  go_enter Tryd.func90, Tryd.ntmps90
  go_wp2_with (go_at_call 110; refine (between_any _ _ _ _).mono ?_; rintro e w' ⟨rfl, rfl⟩)
  go_ret2
  exact ⟨ret_two HE.out rfl rfl, Below.refl _ _⟩
set_option maxRecDepth 100000 in
theorem types_12_172 (n : Nat) (w : World) (h : n = 172) : Calls Tryd.prog 90 #[.int .u8 n] w (TypesPost n w) := by
  have HE := Lib.hid (show typesR n = _ by unfold typesR; rw [if_neg (by omega), if_neg (by omega), if_neg (by omega), if_neg (by omega), if_neg (by unfold between; simp; omega), if_neg (by omega), if_neg (by unfold between; simp; omega), if_neg (by unfold between; simp; omega), if_neg (by unfold between; simp; omega), if_neg (by unfold between; simp; omega), if_neg (by unfold between; simp; omega), if_neg (by omega), if_pos (by omega)])
  have t0a : ((n : Int) == 63) = false := by simp; omega
  have t0b : ((n : Int) == 65) = false := by simp; omega
  have t1a : ((n : Int) == 64) = false := by simp; omega
  have t2a : ((n : Int) == 66) = false := by simp; omega
  have t3a : ((n : Int) == 69) = false := by simp; omega
  have t4 : between n 70 79 = false := by unfold between; simp; omega
  have t5a : ((n : Int) == 80) = false := by simp; omega
  have t6 : between n 81 90 = false := by unfold between; simp; omega
  have t7 : between n 103 105 = false := by unfold between; simp; omega
  have t8 : between n 106 120 = false := by unfold between; simp; omega
  have t9 : between n 121 123 = false := by unfold between; simp; omega
  have t10 : between n 124 138 = false := by unfold between; simp; omega
  have t11a : ((n : Int) == 167) = false := by simp; omega
  have t12a : ((n : Int) == 172) = true := by simp; omega
  clear h
  go_enter Tryd.func90, Tryd.ntmps90
  go_wp2_with (go_at_call 110; refine (between_any _ _ _ _).mono ?_; rintro e w' ⟨rfl, rfl⟩)
  go_ret2
  exact ⟨ret_two HE.out rfl rfl, Below.refl _ _⟩
set_option maxRecDepth 100000 in
theorem types_12_173 (n : Nat) (w : World) (h : n = 173) : Calls Tryd.prog 90 #[.int .u8 n] w (TypesPost n w) := by
  have HE := Lib.hid (show typesR n = _ by unfold typesR; rw [if_neg (by omega), if_neg (by omega), if_neg (by omega), if_neg (by omega), if_neg (by unfold between; simp; omega), if_neg (by omega), if_neg (by unfold between; simp; omega), if_neg (by unfold between; simp; omega), if_neg (by unfold between; simp; omega), if_neg (by unfold between; simp; omega), if_neg (by unfold between; simp; omega), if_neg (by omega), if_pos (by omega)])
  have t0a : ((n : Int) == 63) = false := by simp; omega
  have t0b : ((n : Int) == 65) = false := by simp; omega
  have t1a : ((n : Int) == 64) = false := by simp; omega
  have t2a : ((n : Int) == 66) = false := by simp; omega
  have t3a : ((n : Int) == 69) = false := by simp; omega
  have t4 : between n 70 79 = false := by unfold between; simp; omega
  have t5a : ((n : Int) == 80) = false := by simp; omega
  have t6 : between n 81 90 = false := by unfold between; simp; omega
  have t7 : between n 103 105 = false := by unfold between; simp; omega
  have t8 : between n 106 120 = false := by unfold between; simp; omega
  have t9 : between n 121 123 = false := by unfold between; simp; omega
  have t10 : between n 124 138 = false := by unfold between; simp; omega
  have t11a : ((n : Int) == 167) = false := by simp; omega
  have t12a : ((n : Int) == 172) = false := by simp; omega
  have t12b : ((n : Int) == 173) = true := by simp; omega
  clear h
  go_enter Tryd.func90, Tryd.ntmps90
  go_wp2_with (go_at_call 110; refine (between_any _ _ _ _).mono ?_; rintro e w' ⟨rfl, rfl⟩)
  go_ret2
  exact ⟨ret_two HE.out rfl rfl, Below.refl _ _⟩
set_option maxRecDepth 100000 in
theorem types_else (n : Nat) (w : World) (hT : Tabs w) (hn : n ≤ 255) (h0 : ¬ (n = 63 ∨ n = 65)) (h1 : ¬ (n = 64)) (h2 : ¬ (n = 66)) (h3 : ¬ (n = 69)) (h4 : ¬ (70 ≤ n ∧ n ≤ 79)) (h5 : ¬ (n = 80)) (h6 : ¬ (81 ≤ n ∧ n ≤ 90)) (h7 : ¬ (103 ≤ n ∧ n ≤ 105)) (h8 : ¬ (106 ≤ n ∧ n ≤ 120)) (h9 : ¬ (121 ≤ n ∧ n ≤ 123)) (h10 : ¬ (124 ≤ n ∧ n ≤ 138)) (h11 : ¬ (n = 167)) (h12 : ¬ (n = 172 ∨ n = 173)) : Calls Tryd.prog 90 #[.int .u8 n] w (TypesPost n w) := by
  have HE := Lib.hid (show typesR n = _ by unfold typesR; rw [if_neg (by omega), if_neg (by omega), if_neg (by omega), if_neg (by omega), if_neg (by unfold between; simp; omega), if_neg (by omega), if_neg (by unfold between; simp; omega), if_neg (by unfold between; simp; omega), if_neg (by unfold between; simp; omega), if_neg (by unfold between; simp; omega), if_neg (by unfold between; simp; omega), if_neg (by omega), if_neg (by omega)])
  have t0a : ((n : Int) == 63) = false := by simp; omega
  have t0b : ((n : Int) == 65) = false := by simp; omega
  have t1a : ((n : Int) == 64) = false := by simp; omega
  have t2a : ((n : Int) == 66) = false := by simp; omega
  have t3a : ((n : Int) == 69) = false := by simp; omega
  have t4 : between n 70 79 = false := by unfold between; simp; omega
  have t5a : ((n : Int) == 80) = false := by simp; omega
  have t6 : between n 81 90 = false := by unfold between; simp; omega
  have t7 : between n 103 105 = false := by unfold between; simp; omega
  have t8 : between n 106 120 = false := by unfold between; simp; omega
  have t9 : between n 121 123 = false := by unfold between; simp; omega
  have t10 : between n 124 138 = false := by unfold between; simp; omega
  have t11a : ((n : Int) == 167) = false := by simp; omega
  have t12a : ((n : Int) == 172) = false := by simp; omega
  have t12b : ((n : Int) == 173) = false := by simp; omega
  clear h0 h1 h2 h3 h4 h5 h6 h7 h8 h9 h10 h11 h12
  have HT := Lib.hid hT
  clear hT
  go_enter Tryd.func90, Tryd.ntmps90
  go_wp2_with (first | (go_at_call 110; refine (between_any _ _ _ _).mono ?_; rintro e w' ⟨rfl, rfl⟩) | (go_at_call 111; go_must (refine (accTypes_any n _ HT.out hn).mono ?_; rintro e w' ⟨rfl, hb⟩; have HB := Lib.hid hb; clear hb)))
  go_ret2
  exact ⟨ret_two HE.out rfl rfl, HB.out⟩
theorem types_any (n : Nat) (w : World) (hT : Tabs w) (hn : n ≤ 255) : Calls Tryd.prog 90 #[.int .u8 n] w (TypesPost n w) := by
  by_cases h0_63 : n = 63
  · exact types_0_63 n w h0_63
  by_cases h0_65 : n = 65
  · exact types_0_65 n w h0_65
  by_cases h1_64 : n = 64
  · exact types_1_64 n w h1_64
  by_cases h2_66 : n = 66
  · exact types_2_66 n w h2_66
  by_cases h3_69 : n = 69
  · exact types_3_69 n w h3_69
  by_cases h4 : 70 ≤ n ∧ n ≤ 79
  · exact types_4 n w h4
  by_cases h5_80 : n = 80
  · exact types_5_80 n w h5_80
  by_cases h6 : 81 ≤ n ∧ n ≤ 90
  · exact types_6 n w h6
  by_cases h7 : 103 ≤ n ∧ n ≤ 105
  · exact types_7 n w h7
  by_cases h8 : 106 ≤ n ∧ n ≤ 120
  · exact types_8 n w h8
  by_cases h9 : 121 ≤ n ∧ n ≤ 123
  · exact types_9 n w h9
  by_cases h10 : 124 ≤ n ∧ n ≤ 138
  · exact types_10 n w h10
  by_cases h11_167 : n = 167
  · exact types_11_167 n w h11_167
  by_cases h12_172 : n = 172
  · exact types_12_172 n w h12_172
  by_cases h12_173 : n = 173
  · exact types_12_173 n w h12_173
  exact types_else n w hT hn (by omega) (by omega) (by omega) (by omega) (by omega) (by omega) (by omega) (by omega) (by omega) (by omega) (by omega) (by omega) (by omega)

theorem float_const (n : Nat) (w : World) (h : n = 42 ∨ n = 43 ∨ n = 56 ∨ n = 57 ∨ n = 67 ∨ n = 68) : Calls Tryd.prog 89 #[.int .u8 n] w fun e w' => e = .returned (.bool (floatR n)) ∧ w = w' := by
  rcases h with rfl | rfl | rfl | rfl | rfl | rfl
  all_goals
    go_enter Tryd.func89, Tryd.ntmps89
    go_wp2
    go_ret
    exact ⟨rfl, rfl⟩
theorem float_else (n : Nat) (w : World) (h : ¬ (n = 42 ∨ n = 43 ∨ n = 56 ∨ n = 57 ∨ n = 67 ∨ n = 68)) : Calls Tryd.prog 89 #[.int .u8 n] w fun e w' => e = .returned (.bool (floatR n)) ∧ w = w' := by
  have d42 : ((n : Int) == 42) = false := by simp; omega
  have d43 : ((n : Int) == 43) = false := by simp; omega
  have d56 : ((n : Int) == 56) = false := by simp; omega
  have d57 : ((n : Int) == 57) = false := by simp; omega
  have d67 : ((n : Int) == 67) = false := by simp; omega
  have d68 : ((n : Int) == 68) = false := by simp; omega
  have HE := Lib.hid (show floatR n = (between n 91 102 || between n 139 166 || between n 168 171 || between n 174 191) by unfold floatR; rw [decide_eq_false h]; rfl)
  clear h
  by_cases b1 : between n 91 102 = true
  · rw [b1] at HE
    go_enter Tryd.func89, Tryd.ntmps89
    go_wp2_with (go_at_call 110; refine (between_any _ _ _ _).mono ?_; rintro e w' ⟨rfl, rfl⟩)
    go_ret
    exact ⟨ret_bool (by rw [HE.out]; rfl), rfl⟩
  · have b1 : between n 91 102 = false := by simpa using b1
    rw [b1] at HE
    by_cases b2 : between n 139 166 = true
    · rw [b2] at HE
      go_enter Tryd.func89, Tryd.ntmps89
      go_wp2_with (go_at_call 110; refine (between_any _ _ _ _).mono ?_; rintro e w' ⟨rfl, rfl⟩)
      go_ret
      exact ⟨ret_bool (by rw [HE.out]; rfl), rfl⟩
    · have b2 : between n 139 166 = false := by simpa using b2
      rw [b2] at HE
      by_cases b3 : between n 168 171 = true
      · rw [b3] at HE
        go_enter Tryd.func89, Tryd.ntmps89
        go_wp2_with (go_at_call 110; refine (between_any _ _ _ _).mono ?_; rintro e w' ⟨rfl, rfl⟩)
        go_ret
        exact ⟨ret_bool (by rw [HE.out]; rfl), rfl⟩
      · have b3 : between n 168 171 = false := by simpa using b3
        rw [b3] at HE
        go_enter Tryd.func89, Tryd.ntmps89
        go_wp2_with (go_at_call 110; refine (between_any _ _ _ _).mono ?_; rintro e w' ⟨rfl, rfl⟩)
        go_ret
        exact ⟨ret_bool (by rw [HE.out]; rfl), rfl⟩
theorem float_any (n : Nat) (w : World) : Calls Tryd.prog 89 #[.int .u8 n] w fun e w' => e = .returned (.bool (floatR n)) ∧ w = w' := by
  by_cases h : n = 42 ∨ n = 43 ∨ n = 56 ∨ n = 57 ∨ n = 67 ∨ n = 68
  · exact float_const n w h
  · exact float_else n w h

theorem check_any (n : Nat) (w : World) (hT : Tabs w) (hn : n ≤ 255) : Calls Tryd.prog 71 #[.int .u8 n] w fun e w' => e = .returned (.int .i64 (checkR n)) ∧ w = w' := by
  have HT := Lib.hid hT
  clear hT
  by_cases h : nameR n = []
  · have s1 : (S (nameR n)).toList.isEmpty = true := by rw [S_toList, h]; rfl
    by_cases hf : floatR n = true
    · have HE := Lib.hid (show checkR n = 8 by unfold checkR; rw [if_neg (by simpa using h), if_pos hf])
      clear h
      go_enter Tryd.func71, Tryd.ntmps71
      go_wp2_with (first | (go_at_call 88; go_must (refine (name_any n _ HT.out hn).mono ?_; rintro e w' ⟨rfl, rfl⟩)) | (go_at_call 89; go_must (refine (float_any n _).mono ?_; rintro e w' ⟨rfl, rfl⟩)))
      go_ret
      exact ⟨ret_int (by rw [HE.out]; rfl), rfl⟩
    · have hf : floatR n = false := by simpa using hf
      have HE := Lib.hid (show checkR n = 9 by unfold checkR; rw [if_neg (by simpa using h), if_neg (by rw [hf]; decide)])
      clear h
      go_enter Tryd.func71, Tryd.ntmps71
      go_wp2_with (first | (go_at_call 88; go_must (refine (name_any n _ HT.out hn).mono ?_; rintro e w' ⟨rfl, rfl⟩)) | (go_at_call 89; go_must (refine (float_any n _).mono ?_; rintro e w' ⟨rfl, rfl⟩)))
      go_ret
      exact ⟨ret_int (by rw [HE.out]; rfl), rfl⟩
  · have s1 : (S (nameR n)).toList.isEmpty = false := by rw [S_toList]; simpa using h
    have HE := Lib.hid (show checkR n = 0 by unfold checkR; rw [if_pos h])
    clear h
    go_enter Tryd.func71, Tryd.ntmps71
    go_wp2_with (first | (go_at_call 88; go_must (refine (name_any n _ HT.out hn).mono ?_; rintro e w' ⟨rfl, rfl⟩)) | (go_at_call 89; go_must (refine (float_any n _).mono ?_; rintro e w' ⟨rfl, rfl⟩)))
    go_ret
    exact ⟨ret_int (by rw [HE.out]; rfl), rfl⟩

/-- What Of hands back. -/
def infV (i : Inf) : Value := .agg #[.string (S i.name), .int .i64 i.imm, .string (S i.ps), .string (S i.rs), .bool i.free]
theorem of_any (n : Nat) (w : World) (hT : Tabs w) (hn : n ≤ 255) : Calls Tryd.prog 72 #[.int .u8 n] w fun e w' => e = .returned (infV (infR n)) ∧ Below w.heap.size w w' := by
  have HT := Lib.hid hT
  have HT1 := Lib.hid (fun (o : Obj) => hT.below ((Below.refl w.heap.size w).alloc (Nat.le_refl _) o))
  clear hT
  by_cases h : nameR n = []
  · have s1 : (S (nameR n)).toList.isEmpty = true := by rw [S_toList, h]; rfl
    have HE := Lib.hid (show infR n = ⟨[], 0, [], [], false⟩ by unfold infR; rw [if_pos h])
    clear h
    go_enter Tryd.func72, Tryd.ntmps72
    go_wp2_with (go_at_call 88; go_must (refine (name_any n _ (HT1.out _) hn).mono ?_; rintro e w' ⟨rfl, rfl⟩))
    exact bodyPost_ret (v := infV ⟨[], 0, [], [], false⟩) (by simp [results, Tryd.results72, go_sem]; rfl) rfl ⟨by rw [HE.out], (Below.refl _ _).alloc (Nat.le_refl _) _⟩
  · have s1 : (S (nameR n)).toList.isEmpty = false := by rw [S_toList]; simpa using h
    have HE := Lib.hid (show infR n = ⟨nameR n, immR n, (typesR n).1, (typesR n).2, freeR n⟩ by unfold infR; rw [if_neg h])
    clear h
    go_enter Tryd.func72, Tryd.ntmps72
    go_wp2_with (first | (go_at_call 88; go_must (refine (name_any n _ (HT1.out _) hn).mono ?_; rintro e w' ⟨rfl, rfl⟩)) | (go_at_call 92; go_must (refine (free_any n _ hn).mono ?_; rintro e w' ⟨rfl, rfl⟩)) | (go_at_call 90; go_must (refine (types_any n _ (HT1.out _) hn).mono ?_; rintro e w1 ⟨rfl, hb1⟩; have HB1 := Lib.hid hb1; have hz1 := hb1.size; clear hb1)) | (go_at_call 91; go_must (refine (imm_any n _ ((HT1.out _).below HB1.out) hn).mono ?_; rintro e w2 ⟨rfl, hb2⟩; have hz2 := hb2.size; have hW := Lib.hid (((Whole.made w 110 #[.string ⟨#[]⟩, .int .i64 0, .string ⟨#[]⟩, .string ⟨#[]⟩, .bool false]).below HB1.out).below hb2); have HB2 := Lib.hid hb2; clear hb2; have c0 : w2.cell? ⟨w.heap.size, 0, none⟩ = some (.string ⟨#[]⟩) := hW.out.cell 0; have c1 : w2.cell? ⟨w.heap.size, 1, none⟩ = some (.int .i64 0) := hW.out.cell 1; have c2 : w2.cell? ⟨w.heap.size, 2, none⟩ = some (.string ⟨#[]⟩) := hW.out.cell 2; have c3 : w2.cell? ⟨w.heap.size, 3, none⟩ = some (.string ⟨#[]⟩) := hW.out.cell 3; have c4 : w2.cell? ⟨w.heap.size, 4, none⟩ = some (.bool false) := hW.out.cell 4; have f0 := hW.out.frozen 0; have f1 := hW.out.frozen 1; have f2 := hW.out.frozen 2; have f3 := hW.out.frozen 3; have f4 := hW.out.frozen 4)))
    exact bodyPost_ret (v := infV ⟨nameR n, immR n, (typesR n).1, (typesR n).2, freeR n⟩) (by simp [results, Tryd.results72, go_sem, infV, c0, c1, c2, c3, c4]) rfl ⟨by rw [HE.out],
      ((((((((Below.refl _ _).alloc (Nat.le_refl _) _).trans (HB1.out.mono (by simp))).trans (HB2.out.mono (by simp at hz1; omega))).setCell (Nat.le_refl _) _).setCell (Nat.le_refl _) _).setCell (Nat.le_refl _) _).setCell (Nat.le_refl _) _).setCell (Nat.le_refl _) _⟩
end Go.Proofs.YtebgmfjgapmpfabDoor

/- An instruction as plain data; what a value and a box hold of it. -/
namespace Go.Proofs.YtebgmfjgapmpfabDoor
open Go.RowKit
set_option linter.unusedVariables false

structure I where
  op : UInt8
  a : Int
  b : Int
  l : List Int
abbrev I.n (i : I) : Nat := i.op.toNat
theorem I.n_le (i : I) : i.n ≤ 255 := by have := i.op.toNat_lt; show i.op.toNat ≤ 255; omega
def cells32 (l : List Int) : List Value := l.map (.int .u32)
theorem cells32_length (l : List Int) : (cells32 l).length = l.length := by simp [cells32]
/-- Its numbers are what their kinds hold. -/
structure I.Ok (i : I) : Prop where
  a0 : 0 ≤ i.a
  a1 : i.a ≤ 18446744073709551615
  b0 : 0 ≤ i.b
  b1 : i.b ≤ 18446744073709551615
  l0 : ∀ c ∈ i.l, 0 ≤ c ∧ c ≤ 4294967295
/-- The value, its labels at A. -/
abbrev insV (i : I) (A : Option Addr) (c : Nat) : Value := .agg #[.int .u8 i.op.toNat, .int .u64 i.a, .int .u64 i.b, .slice A i.l.length c]
abbrev insC (i : I) (A : Option Addr) (c : Nat) : Array Value := #[.int .u8 i.op.toNat, .int .u64 i.a, .int .u64 i.b, .slice A i.l.length c]
/-- A box of the function's own that holds it. -/
def BoxI (w W : World) (i : I) (A : Option Addr) (c : Nat) : Prop := Whole W w.heap.size 37 (insC i A c) ∧ Below w.heap.size w W
section
variable {w W W' : World} {i : I} {A : Option Addr} {c : Nat}
theorem BoxI.start (w : World) (i : I) (A : Option Addr) (c : Nat) : BoxI w (w.alloc (.cells (insC i A c) 37)) i A c := ⟨Whole.made _ _ _, (Below.refl _ _).alloc (Nat.le_refl _) _⟩
theorem BoxI.on (h : BoxI w W i A c) (hb : Below W.heap.size W W') : BoxI w W' i A c := ⟨h.1.below hb, h.2.trans (hb.mono h.2.size)⟩
theorem BoxI.drewN (h : BoxI w W i A c) (n : Nat) : BoxI w (W.drewN n) i A c := ⟨h.1, ⟨h.2.os, h.2.tape, h.2.output, h.2.size, h.2.block⟩⟩
theorem BoxI.lt (h : BoxI w W i A c) : w.heap.size < W.heap.size := h.1.lt
theorem BoxI.c0 (h : BoxI w W i A c) : W.cell? ⟨w.heap.size, 0, none⟩ = some (.int .u8 i.op.toNat) := h.1.cell 0
theorem BoxI.c1 (h : BoxI w W i A c) : W.cell? ⟨w.heap.size, 1, none⟩ = some (.int .u64 i.a) := h.1.cell 1
theorem BoxI.c2 (h : BoxI w W i A c) : W.cell? ⟨w.heap.size, 2, none⟩ = some (.int .u64 i.b) := h.1.cell 2
theorem BoxI.c3 (h : BoxI w W i A c) : W.cell? ⟨w.heap.size, 3, none⟩ = some (.slice A i.l.length c) := h.1.cell 3
end

/-- A block's type, as a number. -/
def blockZ (t : Int) : Int := if t = 64 then 0 else if 255 < t then 7 else valueZ t
/-- May A and B be those of such immediates? -/
def numsZ (m : Nat) (a b : Int) : Int :=
  if m = 1 then blockZ a else if m = 0 ∨ m = 9 then (if a = 0 then 0 else 1) else if m = 11 then 0 else if a ≤ 4294967295 ∧ b ≤ 4294967295 then 0 else 1
def rightZ (i : I) : Int :=
  if checkR i.n ≠ 0 then checkR i.n
  else if 0 < i.l.length ∧ immR i.n ≠ 3 then 1
  else if 10000 < i.l.length then 29
  else if i.b ≠ 0 ∧ immR i.n ≠ 8 then 1
  else numsZ (immR i.n) i.a i.b
/-- What both know of an opcode. -/
def sameImm (n : Nat) : Bool := checkR n != 0 || ((infR n).imm == immR n && ((refR n).getD row0).imm == immR n)
theorem imm_all : ∀ n, n < 256 → sameImm n = true := by decide +kernel
theorem imm_same {n : Nat} (hn : n ≤ 255) (h : checkR n = 0) : (infR n).imm = immR n ∧ ((refR n).getD row0).imm = immR n := by
  have := imm_all n (by omega)
  unfold sameImm at this
  rw [h] at this
  simpa using this
theorem check_same {n : Nat} (hn : n ≤ 255) : checkR n = refCheck n := by
  have := tell_all n (by omega)
  unfold sameTell at this
  simp only [Bool.and_eq_true, beq_iff_eq] at this
  exact this.1.1
theorem imm_none {n : Nat} (h : immR n = 9 ∨ True) : True := trivial
theorem field_imm (a c d : ByteArray) (b : Int) (f : Bool) (wx : World) : (Instr.field 110 (.agg #[.string a, .int .i64 b, .string c, .string d, .bool f]) 1).run Tryd.prog wx = .ok (.int .i64 b) wx := by kernel_rfl

theorem argUnless_any (p : Bool) (w : World) : Calls Tryd.prog 94 #[.bool p] w fun e w' => e = .returned (.int .i64 (if p then 0 else 1)) ∧ w = w' := by
  cases p
  · go_enter Tryd.func94, Tryd.ntmps94
    go_wp2
    go_ret
    exact ⟨rfl, rfl⟩
  · go_enter Tryd.func94, Tryd.ntmps94
    go_wp2
    go_ret
    exact ⟨rfl, rfl⟩
theorem block_any (t : Int) (w : World) (h0 : 0 ≤ t) : Calls Tryd.prog 93 #[.int .u64 t] w fun e w' => e = .returned (.int .i64 (blockZ t)) ∧ w = w' := by
  by_cases h1 : t = 64
  · subst h1
    go_enter Tryd.func93, Tryd.ntmps93
    go_wp2
    go_ret
    exact ⟨rfl, rfl⟩
  · have b1 : (t == 64) = false := by simpa using h1
    by_cases h2 : 255 < t
    · have HE := Lib.hid (show blockZ t = 7 by unfold blockZ; rw [if_neg h1, if_pos h2])
      go_enter Tryd.func93, Tryd.ntmps93
      go_wp2
      go_ret
      exact ⟨ret_int HE.out.symm, rfl⟩
    · have HE := Lib.hid (show blockZ t = valueZ t by unfold blockZ; rw [if_neg h1, if_neg h2])
      have b2 : decide (255 < t) = false := by simpa using h2
      have hw : IntKind.u8.wrap t = t := by simp [IntKind.wrap, IntKind.bits, IntKind.signed]; omega
      go_enter Tryd.func93, Tryd.ntmps93
      go_wp2_with (go_at_call 60; go_must (refine (value_any _ _).mono ?_; rintro e w' ⟨rfl, rfl⟩))
      go_ret
      exact ⟨ret_int HE.out.symm, rfl⟩
end Go.Proofs.YtebgmfjgapmpfabDoor
