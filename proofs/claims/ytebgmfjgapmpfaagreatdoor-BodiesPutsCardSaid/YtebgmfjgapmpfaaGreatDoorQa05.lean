/- The reference's Types, Float, Check. -/
import Derived.Test.YtebgmfjgapmpfaaGreatDoorQa04
import Derived.RegionTactic
import Derived.ChangeAlike
import Derived.Test.YtebgmfjgapmpfaaGreatDoorQa01
import Derived.Test.YtebgmfjgapmpfaaGreatDoorQa02
namespace Go.Proofs.YtebgmfjgapmpfaaGreatDoor
set_option linter.unusedVariables false
open Go.RowKit

theorem letters_snoc (s : List UInt8) (k : Nat) (h : k < s.length) : lettersR (s.take (k + 1)) = lettersR (s.take k) ++ [if s[k] = 119 then 127 else 126] := by
  unfold lettersR
  rw [List.take_succ_eq_append_getElem h, List.map_append]
  rfl
theorem str_add {a b c : List UInt8} {x : ByteArray} (hx : x = S b) (h : c = a ++ b) : Value.string (S a ++ x) = .string (S c) := by rw [hx, S_append, h]
/-- The reference's table of floats. -/
def floatArr : Array Value := (floatsL.flatMap fun p => [.int .i64 p.1, .int .i64 p.2]).toArray
theorem float_get : ∀ j, j < 7 → floatArr[2 * j]? = some (.int .i64 ((floatsL.getD j (0, 0)).1 : Nat)) ∧ floatArr[2 * j + 1]? = some (.int .i64 ((floatsL.getD j (0, 0)).2 : Nat)) := by
  intro j hj
  match j, hj with
  | 0, _ => exact ⟨rfl, rfl⟩
  | 1, _ => exact ⟨rfl, rfl⟩
  | 2, _ => exact ⟨rfl, rfl⟩
  | 3, _ => exact ⟨rfl, rfl⟩
  | 4, _ => exact ⟨rfl, rfl⟩
  | 5, _ => exact ⟨rfl, rfl⟩
  | 6, _ => exact ⟨rfl, rfl⟩
def InPair (n j : Nat) : Prop := (floatsL.getD j (0, 0)).1 ≤ n ∧ n ≤ (floatsL.getD j (0, 0)).2
theorem float_yes {n j : Nat} (hj : j < 7) (h : InPair n j) : refFloat n = true := by
  unfold refFloat
  rw [List.any_eq_true]
  refine ⟨floatsL.getD j (0, 0), ?_, decide_eq_true h⟩
  rw [List.getD, List.getElem?_eq_getElem (show j < floatsL.length from hj)]
  exact List.getElem_mem _
theorem float_no {n : Nat} (h : ∀ j, j < 7 → ¬ InPair n j) : refFloat n = false := by
  unfold refFloat
  rw [List.any_eq_false]
  intro p hp
  obtain ⟨j, hj, rfl⟩ := List.getElem_of_mem hp
  have := h j hj
  unfold InPair at this
  rw [List.getD, List.getElem?_eq_getElem hj] at this
  simpa using this
set_option maxRecDepth 100000 in
theorem refFloat_any (n : Nat) (w : World) (hn : n ≤ 255) : Calls Tryz.prog 139 #[.int .i64 n] w fun e w' => e = .returned (.bool (refFloat n)) ∧ Below w.heap.size w w' := by
  obtain ⟨b, hb⟩ : ∃ b, b = refFloat n := ⟨_, rfl⟩
  have HB := Lib.hid hb
  rw [← hb]
  clear hb
  go_enter Tryz.func139, Tryz.ntmps139
  go_wp2_with (refine Go.Great.wpList_buildSliceTo rfl 188 3 14 _ rfl _ rfl _ rfl Tryz.underlying188 floatArr (by kernel_rfl) ?_)
  obtain ⟨w1, hw1⟩ : ∃ w1, w1 = w.alloc (.cells floatArr 3) := ⟨_, rfl⟩
  have HW := Lib.hid (show Whole w1 w.heap.size 3 floatArr by rw [hw1]; exact Whole.made w _ _)
  have HL := Lib.hid (show Below w.heap.size w w1 by rw [hw1]; exact (Below.refl _ _).alloc (Nat.le_refl _) _)
  rw [← hw1]
  clear hw1
  go_loop [4] (fun i => ∃ j k : Nat, k ≤ 14 ∧ k = 2 * j ∧ i = .int .i64 k ∧ Hid (∀ q, q < j → ¬ InPair n q)) (fun i => 14 - (intOf i).toNat)
  case atStart => exact ⟨0, 0, by omega, rfl, rfl, Lib.hid (fun q hq => by omega)⟩
  case round =>
    obtain ⟨j, k, hk, hkj, rfl, HN⟩ := hrel
    by_cases hlt : k < 14
    · have hj : j < 7 := by omega
      obtain ⟨g0, g1⟩ := float_get j hj
      rw [← hkj] at g0 g1
      have c0 := (HW.out.cell k).trans g0
      have c1 := (HW.out.cell (k + 1)).trans g1
      have hp := Lib.hid (show InPair n j ↔ (floatsL.getD j (0, 0)).1 ≤ n ∧ n ≤ (floatsL.getD j (0, 0)).2 from Iff.rfl)
      obtain ⟨p, hpe⟩ : ∃ p, p = floatsL.getD j (0, 0) := ⟨_, rfl⟩
      rw [← hpe] at c0 c1 hp
      clear g0 g1 hpe
      have HK := Lib.hid hkj
      have hk1 : k + 1 < 14 := by omega
      clear hkj
      by_cases h1 : p.1 ≤ n
      · by_cases h2 : n ≤ p.2
        · have HE := Lib.hid (show b = true by rw [HB.out]; exact float_yes hj (hp.out.2 ⟨h1, h2⟩))
          go_wp2
          go_ret
          exact ⟨ret_bool HE.out.symm, HL.out⟩
        · have HNj := Lib.hid (show ¬ InPair n j from fun e => h2 (hp.out.1 e).2)
          have d2 : decide (n ≤ p.2) = false := by simpa using h2
          go_wp2
          go_round
          case rel => exact ⟨j + 1, k + 2, by omega, by have := HK.out; omega, by go_num, Lib.hid (fun q hq => by
            rcases Nat.lt_or_ge q j with g | g
            · exact HN.out q g
            · obtain rfl : q = j := by omega
              exact HNj.out)⟩
          case measure => simp [intOf]; omega
      · have HNj := Lib.hid (show ¬ InPair n j from fun e => h1 (hp.out.1 e).1)
        have d1 : decide (p.1 ≤ n) = false := by simpa using h1
        go_wp2
        go_round
        case rel => exact ⟨j + 1, k + 2, by omega, by have := HK.out; omega, by go_num, Lib.hid (fun q hq => by
          rcases Nat.lt_or_ge q j with g | g
          · exact HN.out q g
          · obtain rfl : q = j := by omega
            exact HNj.out)⟩
        case measure => simp [intOf]; omega
    · have HE := Lib.hid (show b = false by rw [HB.out]; exact float_no (fun q hq => HN.out q (by omega)))
      go_wp2
      go_ret
      exact ⟨ret_bool HE.out.symm, HL.out⟩

theorem refCheck_any (n : Nat) (w : World) (hn : n ≤ 255) : Calls Tryz.prog 107 #[.int .i64 n] w fun e w' => e = .returned (.int .i64 (refCheck n)) ∧ Below w.heap.size w w' := by
  by_cases hf : refFloat n = true
  · have HE := Lib.hid (show refCheck n = 8 by unfold refCheck; rw [if_pos hf])
    go_enter Tryz.func107, Tryz.ntmps107
    go_wp2_with (go_at_call 139; go_must (refine (refFloat_any n _ hn).mono ?_; rintro e w1 ⟨rfl, hb1⟩; have HB1 := Lib.hid hb1; clear hb1))
    go_ret
    exact ⟨ret_int (by rw [HE.out]; rfl), HB1.out⟩
  · have hf : refFloat n = false := by simpa using hf
    by_cases hr : (refR n).isSome = true
    · have HE := Lib.hid (show refCheck n = 0 by unfold refCheck; rw [if_neg (by rw [hf]; decide), if_pos hr])
      go_enter Tryz.func107, Tryz.ntmps107
      go_wp2_with (first | (go_at_call 139; go_must (refine (refFloat_any n _ hn).mono ?_; rintro e w1 ⟨rfl, hb1⟩; have HB1 := Lib.hid hb1; have hz1 := hb1.size; clear hb1)) | (go_at_call 108; go_must (refine (ref_any n _ hn).mono ?_; rintro e w2 ⟨rfl, hb2⟩; have HB2 := Lib.hid hb2; have hz2 := hb2.size; clear hb2)))
      go_ret
      exact ⟨ret_int (by rw [HE.out]; rfl), (HB1.out.trans (HB2.out.mono hz1)).alloc (by omega) _⟩
    · have hr : (refR n).isSome = false := by simpa using hr
      have HE := Lib.hid (show refCheck n = 9 by unfold refCheck; rw [if_neg (by rw [hf]; decide), if_neg (by rw [hr]; decide)])
      go_enter Tryz.func107, Tryz.ntmps107
      go_wp2_with (first | (go_at_call 139; go_must (refine (refFloat_any n _ hn).mono ?_; rintro e w1 ⟨rfl, hb1⟩; have HB1 := Lib.hid hb1; have hz1 := hb1.size; clear hb1)) | (go_at_call 108; go_must (refine (ref_any n _ hn).mono ?_; rintro e w2 ⟨rfl, hb2⟩; have HB2 := Lib.hid hb2; have hz2 := hb2.size; clear hb2)))
      go_ret
      exact ⟨ret_int (by rw [HE.out]; rfl), (HB1.out.trans (HB2.out.mono hz1)).alloc (by omega) _⟩
end Go.Proofs.YtebgmfjgapmpfaaGreatDoor

/- AccessOf, immOf, Opens, accessTypes, typesOf, float, Check, Of. -/
namespace Go.Proofs.YtebgmfjgapmpfaaGreatDoor
set_option linter.unusedVariables false
open Go.RowKit

theorem acc_get (l : List AccR) (i : Nat) (h : i < l.length) : (accCells l)[i * 4]? = some (.int .i64 (l.getD i acc0).n) ∧ (accCells l)[i * 4 + 1]? = some (.int .u8 (l.getD i acc0).t) ∧ (accCells l)[i * 4 + 2]? = some (.bool (l.getD i acc0).wr) ∧ (accCells l)[i * 4 + 3]? = some (.bool (l.getD i acc0).sg) := by
  unfold accCells
  simp only [List.getElem?_toArray]
  induction l generalizing i with
  | nil => simp at h
  | cons x r ih =>
    cases i with
    | zero => exact ⟨rfl, rfl, rfl, rfl⟩
    | succ i =>
      have := ih i (by simpa using h)
      have e : (i + 1) * 4 = i * 4 + 1 + 1 + 1 + 1 := by omega
      rw [e]
      exact this
theorem acc_cell {w : World} (h : ∃ t fr, w.heap[5]? = some (.cells (accCells tabA) t fr)) (i : Nat) (hi : i < 23) :
    w.cell? ⟨5, i * 4, none⟩ = some (.int .i64 (tabA.getD i acc0).n) ∧ w.cell? ⟨5, i * 4 + 1, none⟩ = some (.int .u8 (tabA.getD i acc0).t) ∧
    w.cell? ⟨5, i * 4 + 2, none⟩ = some (.bool (tabA.getD i acc0).wr) ∧ w.cell? ⟨5, i * 4 + 3, none⟩ = some (.bool (tabA.getD i acc0).sg) := by
  obtain ⟨t, fr, h⟩ := h
  obtain ⟨a, b, c, d⟩ := acc_get tabA i hi
  refine ⟨?_, ?_, ?_, ?_⟩ <;> rw [cell_of_row w _ _ _ t fr h] <;> assumption
/-- What AccessOf hands back. -/
abbrev accV (n : Nat) : Value := .tuple #[.agg #[.int .i64 (accR n).n, .int .u8 (accR n).t, .bool (accR n).wr, .bool (accR n).sg], .bool (isAcc n)]
theorem access_no (n : Nat) (w : World) (hn : n ≤ 255) (h : n < 40 ∨ 63 ≤ n) : Calls Tryz.prog 178 #[.int .u8 n] w fun e w' => e = .returned (accV n) ∧ Below w.heap.size w w' := by
  have e0 : accR n = acc0 := by
    unfold accR
    split
    · rfl
    · rw [List.getD, List.getElem?_eq_none (by show 23 ≤ _; omega)]; rfl
  have e1 : isAcc n = false := by unfold isAcc; rw [e0]; rfl
  have HE := Lib.hid (show accV n = .tuple #[.agg #[.int .i64 0, .int .u8 0, .bool false, .bool false], .bool false] by unfold accV; rw [e0, e1]; rfl)
  clear e0 e1
  rcases h with h | h
  · have d0 : decide ((n : Int) - 40 < 0) = true := by simp; omega
    go_enter Tryz.func178, Tryz.ntmps178
    go_wp2
    exact bodyPost_ret (v := .tuple #[.agg #[.int .i64 0, .int .u8 0, .bool false, .bool false], .bool false]) (by simp [results, Tryz.results178, go_sem]) rfl ⟨by rw [HE.out], (Below.refl _ _).alloc (Nat.le_refl _) _⟩
  · have d0 : decide ((n : Int) - 40 < 0) = false := by simp; omega
    go_enter Tryz.func178, Tryz.ntmps178
    go_wp2
    exact bodyPost_ret (v := .tuple #[.agg #[.int .i64 0, .int .u8 0, .bool false, .bool false], .bool false]) (by simp [results, Tryz.results178, go_sem]) rfl ⟨by rw [HE.out], (Below.refl _ _).alloc (Nat.le_refl _) _⟩
theorem access_yes (n : Nat) (w : World) (hT : Tabs w) (h1 : 40 ≤ n) (h2 : n < 63) : Calls Tryz.prog 178 #[.int .u8 n] w fun e w' => e = .returned (accV n) ∧ Below w.heap.size w w' := by
  obtain ⟨c0, c1, c2, c3⟩ := acc_cell hT.hA (n - 40) (by omega)
  have e0 : accR n = tabA.getD (n - 40) acc0 := by unfold accR; rw [if_neg (by omega)]
  rw [← e0] at c0 c1 c2 c3
  have HE := Lib.hid (show isAcc n = decide (0 < (accR n).n) from rfl)
  have HV := Lib.hid (show accV n = .tuple #[.agg #[.int .i64 (accR n).n, .int .u8 (accR n).t, .bool (accR n).wr, .bool (accR n).sg], .bool (isAcc n)] from rfl)
  clear e0
  obtain ⟨a, ha⟩ : ∃ a, a = accR n := ⟨_, rfl⟩
  rw [← ha] at c0 c1 c2 c3 HE HV
  clear ha
  have hz : 5 < w.heap.size := by obtain ⟨t, fr, h⟩ := hT.hA; exact (Array.getElem?_eq_some_iff.1 h).1
  clear hT
  have d0 : decide ((n : Int) - 40 < 0) = false := by simp; omega
  have d1 : decide (23 ≤ (n : Int) - 40) = false := by simp; omega
  go_enter Tryz.func178, Tryz.ntmps178
  go_wp2
  go_region
  all_goals
    go_wp2
    exact bodyPost_ret (v := .tuple #[.agg #[.int .i64 a.n, .int .u8 a.t, .bool a.wr, .bool a.sg], .bool (decide (0 < a.n))]) (by simp [results, Tryz.results178, go_sem]) rfl ⟨by rw [HV.out, HE.out], (((Below.refl _ _).alloc (Nat.le_refl _) _).alloc (by simp) _).drew⟩
theorem access_any (n : Nat) (w : World) (hT : Tabs w) (hn : n ≤ 255) : Calls Tryz.prog 178 #[.int .u8 n] w fun e w' => e = .returned (accV n) ∧ Below w.heap.size w w' := by
  by_cases h : n < 40 ∨ 63 ≤ n
  · exact access_no n w hn h
  · exact access_yes n w hT (by omega) (by omega)

/-- What immOf and accessTypes do: a number or two strings. -/
theorem imm_const (n : Nat) (w : World) (h : n = 2 ∨ n = 3 ∨ n = 4 ∨ n = 12 ∨ n = 13 ∨ n = 14 ∨ n = 16 ∨ n = 17 ∨ n = 32 ∨ n = 33 ∨ n = 34 ∨ n = 35 ∨ n = 36 ∨ n = 63 ∨ n = 64 ∨ n = 65 ∨ n = 66) : Calls Tryz.prog 164 #[.int .u8 n] w fun e w' => e = .returned (.int .i64 (immR n)) ∧ Below w.heap.size w w' := by
  rcases h with rfl | rfl | rfl | rfl | rfl | rfl | rfl | rfl | rfl | rfl | rfl | rfl | rfl | rfl | rfl | rfl | rfl
  all_goals
    go_enter Tryz.func164, Tryz.ntmps164
    go_wp2
    go_ret
    exact ⟨rfl, Below.refl _ _⟩
set_option maxRecDepth 100000 in
theorem imm_else (n : Nat) (w : World) (hT : Tabs w) (hn : n ≤ 255) (h2 : n ≠ 2) (h3 : n ≠ 3) (h4 : n ≠ 4) (h12 : n ≠ 12) (h13 : n ≠ 13) (h14 : n ≠ 14) (h16 : n ≠ 16) (h17 : n ≠ 17) (h32 : n ≠ 32) (h33 : n ≠ 33) (h34 : n ≠ 34) (h35 : n ≠ 35) (h36 : n ≠ 36) (h63 : n ≠ 63) (h64 : n ≠ 64) (h65 : n ≠ 65) (h66 : n ≠ 66) : Calls Tryz.prog 164 #[.int .u8 n] w fun e w' => e = .returned (.int .i64 (immR n)) ∧ Below w.heap.size w w' := by
  have HE := Lib.hid (show immR n = if isAcc n = true then 8 else 0 by unfold immR; rw [if_neg (by omega), if_neg (by omega), if_neg (by omega), if_neg (by omega), if_neg (by omega), if_neg (by omega), if_neg (by omega), if_neg (by omega), if_neg (by omega), if_neg (by omega)])
  have d2 : ((n : Int) == 2) = false := by simp; omega
  have d3 : ((n : Int) == 3) = false := by simp; omega
  have d4 : ((n : Int) == 4) = false := by simp; omega
  have d12 : ((n : Int) == 12) = false := by simp; omega
  have d13 : ((n : Int) == 13) = false := by simp; omega
  have d14 : ((n : Int) == 14) = false := by simp; omega
  have d16 : ((n : Int) == 16) = false := by simp; omega
  have d17 : ((n : Int) == 17) = false := by simp; omega
  have d32 : ((n : Int) == 32) = false := by simp; omega
  have d33 : ((n : Int) == 33) = false := by simp; omega
  have d34 : ((n : Int) == 34) = false := by simp; omega
  have d35 : ((n : Int) == 35) = false := by simp; omega
  have d36 : ((n : Int) == 36) = false := by simp; omega
  have d63 : ((n : Int) == 63) = false := by simp; omega
  have d64 : ((n : Int) == 64) = false := by simp; omega
  have d65 : ((n : Int) == 65) = false := by simp; omega
  have d66 : ((n : Int) == 66) = false := by simp; omega
  clear h2 h3 h4 h12 h13 h14 h16 h17 h32 h33 h34 h35 h36 h63 h64 h65 h66
  have HT := Lib.hid hT
  clear hT
  by_cases hx : isAcc n = true
  · rw [if_pos hx] at HE
    go_enter Tryz.func164, Tryz.ntmps164
    go_wp2_with (go_at_call 178; go_must (refine (access_any n _ HT.out hn).mono ?_; rintro e w' ⟨rfl, hb⟩; have HB := Lib.hid hb; have hz := hb.size; clear hb))
    go_ret
    exact ⟨ret_int (by rw [HE.out]; rfl), HB.out.alloc hz _⟩
  · have hx : isAcc n = false := by simpa using hx
    rw [if_neg (by rw [hx]; decide)] at HE
    go_enter Tryz.func164, Tryz.ntmps164
    go_wp2_with (go_at_call 178; go_must (refine (access_any n _ HT.out hn).mono ?_; rintro e w' ⟨rfl, hb⟩; have HB := Lib.hid hb; have hz := hb.size; clear hb))
    go_ret
    exact ⟨ret_int (by rw [HE.out]; rfl), HB.out.alloc hz _⟩
theorem imm_any (n : Nat) (w : World) (hT : Tabs w) (hn : n ≤ 255) : Calls Tryz.prog 164 #[.int .u8 n] w fun e w' => e = .returned (.int .i64 (immR n)) ∧ Below w.heap.size w w' := by
  by_cases h : n = 2 ∨ n = 3 ∨ n = 4 ∨ n = 12 ∨ n = 13 ∨ n = 14 ∨ n = 16 ∨ n = 17 ∨ n = 32 ∨ n = 33 ∨ n = 34 ∨ n = 35 ∨ n = 36 ∨ n = 63 ∨ n = 64 ∨ n = 65 ∨ n = 66
  · exact imm_const n w h
  · exact imm_else n w hT hn (by omega) (by omega) (by omega) (by omega) (by omega) (by omega) (by omega) (by omega) (by omega) (by omega) (by omega) (by omega) (by omega) (by omega) (by omega) (by omega) (by omega)
theorem opens_any (n : Nat) (w : World) (hT : Tabs w) (hn : n ≤ 255) : Calls Tryz.prog 144 #[.int .u8 n] w fun e w' => e = .returned (.bool (immR n == 1)) ∧ Below w.heap.size w w' := by
  have HT := Lib.hid hT
  clear hT
  by_cases h : immR n = 1
  · have h1 : ((immR n : Int) == 1) = true := by simp; omega
    have HE := Lib.hid (show (immR n == 1) = true by simpa using h)
    clear h
    go_enter Tryz.func144, Tryz.ntmps144
    go_wp2_with (go_at_call 164; go_must (refine (imm_any n _ HT.out hn).mono ?_; rintro e w' ⟨rfl, hb⟩; have HB := Lib.hid hb; clear hb))
    go_ret
    exact ⟨ret_bool (by rw [HE.out]), HB.out⟩
  · have h1 : ((immR n : Int) == 1) = false := by simp; omega
    have HE := Lib.hid (show (immR n == 1) = false by simpa using h)
    clear h
    go_enter Tryz.func144, Tryz.ntmps144
    go_wp2_with (go_at_call 164; go_must (refine (imm_any n _ HT.out hn).mono ?_; rintro e w' ⟨rfl, hb⟩; have HB := Lib.hid hb; clear hb))
    go_ret
    exact ⟨ret_bool (by rw [HE.out]), HB.out⟩

/-- Two strings. -/
abbrev twoV (p : List UInt8 × List UInt8) : Value := .tuple #[.string (S p.1), .string (S p.2)]
theorem ret_two {a b c d : List UInt8} {p : List UInt8 × List UInt8} (h : p = (a, b)) (ha : c = a) (hb : d = b) : Ending.returned (.tuple #[.string (S c), .string (S d)]) = .returned (twoV p) := by subst ha; subst hb; subst h; rfl
def TypesPost (n : Nat) (w : World) (e : Ending) (w' : World) : Prop := e = .returned (twoV (typesR n)) ∧ Below w.heap.size w w'
theorem accTypes_any (n : Nat) (w : World) (hT : Tabs w) (hn : n ≤ 255) : Calls Tryz.prog 182 #[.int .u8 n] w fun e w' => e = .returned (twoV (accTypes n)) ∧ Below w.heap.size w w' := by
  have HT := Lib.hid hT
  clear hT
  by_cases hx : isAcc n = true
  · by_cases hw : (accR n).wr = true
    · by_cases ht : (accR n).t = 127
      · have HE := Lib.hid (show accTypes n = ([127, 127], []) by unfold accTypes; rw [if_neg (by rw [hx]; decide), if_pos hw, if_pos ht])
        have ht1 : (((accR n).t : Int) == 127) = true := by simp; omega
        clear ht
        go_enter Tryz.func182, Tryz.ntmps182
        go_wp2_with (go_at_call 178; go_must (refine (access_any n _ HT.out hn).mono ?_; rintro e w' ⟨rfl, hb⟩; have HB := Lib.hid hb; have hz := hb.size; clear hb))
        go_ret2
        exact ⟨ret_two HE.out rfl rfl, HB.out.alloc hz _⟩
      · have HE := Lib.hid (show accTypes n = ([127, 126], []) by unfold accTypes; rw [if_neg (by rw [hx]; decide), if_pos hw, if_neg ht])
        have ht1 : (((accR n).t : Int) == 127) = false := by simp; omega
        clear ht
        go_enter Tryz.func182, Tryz.ntmps182
        go_wp2_with (go_at_call 178; go_must (refine (access_any n _ HT.out hn).mono ?_; rintro e w' ⟨rfl, hb⟩; have HB := Lib.hid hb; have hz := hb.size; clear hb))
        go_ret2
        exact ⟨ret_two HE.out rfl rfl, HB.out.alloc hz _⟩
    · have hw : (accR n).wr = false := by simpa using hw
      by_cases ht : (accR n).t = 127
      · have HE := Lib.hid (show accTypes n = ([127], [127]) by unfold accTypes; rw [if_neg (by rw [hx]; decide), if_neg (by rw [hw]; decide), if_pos ht])
        have ht1 : (((accR n).t : Int) == 127) = true := by simp; omega
        clear ht
        go_enter Tryz.func182, Tryz.ntmps182
        go_wp2_with (go_at_call 178; go_must (refine (access_any n _ HT.out hn).mono ?_; rintro e w' ⟨rfl, hb⟩; have HB := Lib.hid hb; have hz := hb.size; clear hb))
        go_ret2
        exact ⟨ret_two HE.out rfl rfl, HB.out.alloc hz _⟩
      · have HE := Lib.hid (show accTypes n = ([127], [126]) by unfold accTypes; rw [if_neg (by rw [hx]; decide), if_neg (by rw [hw]; decide), if_neg ht])
        have ht1 : (((accR n).t : Int) == 127) = false := by simp; omega
        clear ht
        go_enter Tryz.func182, Tryz.ntmps182
        go_wp2_with (go_at_call 178; go_must (refine (access_any n _ HT.out hn).mono ?_; rintro e w' ⟨rfl, hb⟩; have HB := Lib.hid hb; have hz := hb.size; clear hb))
        go_ret2
        exact ⟨ret_two HE.out rfl rfl, HB.out.alloc hz _⟩
  · have hx : isAcc n = false := by simpa using hx
    have HE := Lib.hid (show accTypes n = ([], []) by unfold accTypes; rw [if_pos hx])
    go_enter Tryz.func182, Tryz.ntmps182
    go_wp2_with (go_at_call 178; go_must (refine (access_any n _ HT.out hn).mono ?_; rintro e w' ⟨rfl, hb⟩; have HB := Lib.hid hb; have hz := hb.size; clear hb))
    go_ret2
    exact ⟨ret_two HE.out rfl rfl, HB.out.alloc hz _⟩
end Go.Proofs.YtebgmfjgapmpfaaGreatDoor

/- typesOf (made by gen/genTypes.py), float, Check, Of. -/
namespace Go.Proofs.YtebgmfjgapmpfaaGreatDoor
set_option linter.unusedVariables false
open Go.RowKit

set_option maxRecDepth 100000 in
theorem types_0_63 (n : Nat) (w : World) (h : n = 63) : Calls Tryz.prog 168 #[.int .u8 n] w (TypesPost n w) := by
  have HE := Lib.hid (show typesR n = _ by unfold typesR; rw [if_pos (by omega)])
  have t0a : ((n : Int) == 63) = true := by simp; omega
  clear h
  go_enter Tryz.func168, Tryz.ntmps168
  go_wp2_with (go_at_call 181; refine (between_any _ _ _ _).mono ?_; rintro e w' ⟨rfl, rfl⟩)
  go_ret2
  exact ⟨ret_two HE.out rfl rfl, Below.refl _ _⟩
set_option maxRecDepth 100000 in
theorem types_0_65 (n : Nat) (w : World) (h : n = 65) : Calls Tryz.prog 168 #[.int .u8 n] w (TypesPost n w) := by
  have HE := Lib.hid (show typesR n = _ by unfold typesR; rw [if_pos (by omega)])
  have t0a : ((n : Int) == 63) = false := by simp; omega
  have t0b : ((n : Int) == 65) = true := by simp; omega
  clear h
  go_enter Tryz.func168, Tryz.ntmps168
  go_wp2_with (go_at_call 181; refine (between_any _ _ _ _).mono ?_; rintro e w' ⟨rfl, rfl⟩)
  go_ret2
  exact ⟨ret_two HE.out rfl rfl, Below.refl _ _⟩
set_option maxRecDepth 100000 in
theorem types_1_64 (n : Nat) (w : World) (h : n = 64) : Calls Tryz.prog 168 #[.int .u8 n] w (TypesPost n w) := by
  have HE := Lib.hid (show typesR n = _ by unfold typesR; rw [if_neg (by omega), if_pos (by omega)])
  have t0a : ((n : Int) == 63) = false := by simp; omega
  have t0b : ((n : Int) == 65) = false := by simp; omega
  have t1a : ((n : Int) == 64) = true := by simp; omega
  clear h
  go_enter Tryz.func168, Tryz.ntmps168
  go_wp2_with (go_at_call 181; refine (between_any _ _ _ _).mono ?_; rintro e w' ⟨rfl, rfl⟩)
  go_ret2
  exact ⟨ret_two HE.out rfl rfl, Below.refl _ _⟩
set_option maxRecDepth 100000 in
theorem types_2_66 (n : Nat) (w : World) (h : n = 66) : Calls Tryz.prog 168 #[.int .u8 n] w (TypesPost n w) := by
  have HE := Lib.hid (show typesR n = _ by unfold typesR; rw [if_neg (by omega), if_neg (by omega), if_pos (by omega)])
  have t0a : ((n : Int) == 63) = false := by simp; omega
  have t0b : ((n : Int) == 65) = false := by simp; omega
  have t1a : ((n : Int) == 64) = false := by simp; omega
  have t2a : ((n : Int) == 66) = true := by simp; omega
  clear h
  go_enter Tryz.func168, Tryz.ntmps168
  go_wp2_with (go_at_call 181; refine (between_any _ _ _ _).mono ?_; rintro e w' ⟨rfl, rfl⟩)
  go_ret2
  exact ⟨ret_two HE.out rfl rfl, Below.refl _ _⟩
set_option maxRecDepth 100000 in
theorem types_3_69 (n : Nat) (w : World) (h : n = 69) : Calls Tryz.prog 168 #[.int .u8 n] w (TypesPost n w) := by
  have HE := Lib.hid (show typesR n = _ by unfold typesR; rw [if_neg (by omega), if_neg (by omega), if_neg (by omega), if_pos (by omega)])
  have t0a : ((n : Int) == 63) = false := by simp; omega
  have t0b : ((n : Int) == 65) = false := by simp; omega
  have t1a : ((n : Int) == 64) = false := by simp; omega
  have t2a : ((n : Int) == 66) = false := by simp; omega
  have t3a : ((n : Int) == 69) = true := by simp; omega
  clear h
  go_enter Tryz.func168, Tryz.ntmps168
  go_wp2_with (go_at_call 181; refine (between_any _ _ _ _).mono ?_; rintro e w' ⟨rfl, rfl⟩)
  go_ret2
  exact ⟨ret_two HE.out rfl rfl, Below.refl _ _⟩
set_option maxRecDepth 100000 in
theorem types_4 (n : Nat) (w : World) (h : 70 ≤ n ∧ n ≤ 79) : Calls Tryz.prog 168 #[.int .u8 n] w (TypesPost n w) := by
  have HE := Lib.hid (show typesR n = _ by unfold typesR; rw [if_neg (by omega), if_neg (by omega), if_neg (by omega), if_neg (by omega), if_pos (by unfold between; simp; omega)])
  have t0a : ((n : Int) == 63) = false := by simp; omega
  have t0b : ((n : Int) == 65) = false := by simp; omega
  have t1a : ((n : Int) == 64) = false := by simp; omega
  have t2a : ((n : Int) == 66) = false := by simp; omega
  have t3a : ((n : Int) == 69) = false := by simp; omega
  have t4 : between n 70 79 = true := by unfold between; simp; omega
  clear h
  go_enter Tryz.func168, Tryz.ntmps168
  go_wp2_with (go_at_call 181; refine (between_any _ _ _ _).mono ?_; rintro e w' ⟨rfl, rfl⟩)
  go_ret2
  exact ⟨ret_two HE.out rfl rfl, Below.refl _ _⟩
set_option maxRecDepth 100000 in
theorem types_5_80 (n : Nat) (w : World) (h : n = 80) : Calls Tryz.prog 168 #[.int .u8 n] w (TypesPost n w) := by
  have HE := Lib.hid (show typesR n = _ by unfold typesR; rw [if_neg (by omega), if_neg (by omega), if_neg (by omega), if_neg (by omega), if_neg (by unfold between; simp; omega), if_pos (by omega)])
  have t0a : ((n : Int) == 63) = false := by simp; omega
  have t0b : ((n : Int) == 65) = false := by simp; omega
  have t1a : ((n : Int) == 64) = false := by simp; omega
  have t2a : ((n : Int) == 66) = false := by simp; omega
  have t3a : ((n : Int) == 69) = false := by simp; omega
  have t4 : between n 70 79 = false := by unfold between; simp; omega
  have t5a : ((n : Int) == 80) = true := by simp; omega
  clear h
  go_enter Tryz.func168, Tryz.ntmps168
  go_wp2_with (go_at_call 181; refine (between_any _ _ _ _).mono ?_; rintro e w' ⟨rfl, rfl⟩)
  go_ret2
  exact ⟨ret_two HE.out rfl rfl, Below.refl _ _⟩
set_option maxRecDepth 100000 in
theorem types_6 (n : Nat) (w : World) (h : 81 ≤ n ∧ n ≤ 90) : Calls Tryz.prog 168 #[.int .u8 n] w (TypesPost n w) := by
  have HE := Lib.hid (show typesR n = _ by unfold typesR; rw [if_neg (by omega), if_neg (by omega), if_neg (by omega), if_neg (by omega), if_neg (by unfold between; simp; omega), if_neg (by omega), if_pos (by unfold between; simp; omega)])
  have t0a : ((n : Int) == 63) = false := by simp; omega
  have t0b : ((n : Int) == 65) = false := by simp; omega
  have t1a : ((n : Int) == 64) = false := by simp; omega
  have t2a : ((n : Int) == 66) = false := by simp; omega
  have t3a : ((n : Int) == 69) = false := by simp; omega
  have t4 : between n 70 79 = false := by unfold between; simp; omega
  have t5a : ((n : Int) == 80) = false := by simp; omega
  have t6 : between n 81 90 = true := by unfold between; simp; omega
  clear h
  go_enter Tryz.func168, Tryz.ntmps168
  go_wp2_with (go_at_call 181; refine (between_any _ _ _ _).mono ?_; rintro e w' ⟨rfl, rfl⟩)
  go_ret2
  exact ⟨ret_two HE.out rfl rfl, Below.refl _ _⟩
set_option maxRecDepth 100000 in
theorem types_7 (n : Nat) (w : World) (h : 103 ≤ n ∧ n ≤ 105) : Calls Tryz.prog 168 #[.int .u8 n] w (TypesPost n w) := by
  have HE := Lib.hid (show typesR n = _ by unfold typesR; rw [if_neg (by omega), if_neg (by omega), if_neg (by omega), if_neg (by omega), if_neg (by unfold between; simp; omega), if_neg (by omega), if_neg (by unfold between; simp; omega), if_pos (by unfold between; simp; omega)])
  have t0a : ((n : Int) == 63) = false := by simp; omega
  have t0b : ((n : Int) == 65) = false := by simp; omega
  have t1a : ((n : Int) == 64) = false := by simp; omega
  have t2a : ((n : Int) == 66) = false := by simp; omega
  have t3a : ((n : Int) == 69) = false := by simp; omega
  have t4 : between n 70 79 = false := by unfold between; simp; omega
  have t5a : ((n : Int) == 80) = false := by simp; omega
  have t6 : between n 81 90 = false := by unfold between; simp; omega
  have t7 : between n 103 105 = true := by unfold between; simp; omega
  clear h
  go_enter Tryz.func168, Tryz.ntmps168
  go_wp2_with (go_at_call 181; refine (between_any _ _ _ _).mono ?_; rintro e w' ⟨rfl, rfl⟩)
  go_ret2
  exact ⟨ret_two HE.out rfl rfl, Below.refl _ _⟩
set_option maxRecDepth 100000 in
theorem types_8 (n : Nat) (w : World) (h : 106 ≤ n ∧ n ≤ 120) : Calls Tryz.prog 168 #[.int .u8 n] w (TypesPost n w) := by
  have HE := Lib.hid (show typesR n = _ by unfold typesR; rw [if_neg (by omega), if_neg (by omega), if_neg (by omega), if_neg (by omega), if_neg (by unfold between; simp; omega), if_neg (by omega), if_neg (by unfold between; simp; omega), if_neg (by unfold between; simp; omega), if_pos (by unfold between; simp; omega)])
  have t0a : ((n : Int) == 63) = false := by simp; omega
  have t0b : ((n : Int) == 65) = false := by simp; omega
  have t1a : ((n : Int) == 64) = false := by simp; omega
  have t2a : ((n : Int) == 66) = false := by simp; omega
  have t3a : ((n : Int) == 69) = false := by simp; omega
  have t4 : between n 70 79 = false := by unfold between; simp; omega
  have t5a : ((n : Int) == 80) = false := by simp; omega
  have t6 : between n 81 90 = false := by unfold between; simp; omega
  have t7 : between n 103 105 = false := by unfold between; simp; omega
  have t8 : between n 106 120 = true := by unfold between; simp; omega
  clear h
  go_enter Tryz.func168, Tryz.ntmps168
  go_wp2_with (go_at_call 181; refine (between_any _ _ _ _).mono ?_; rintro e w' ⟨rfl, rfl⟩)
  go_ret2
  exact ⟨ret_two HE.out rfl rfl, Below.refl _ _⟩
set_option maxRecDepth 100000 in
theorem types_9 (n : Nat) (w : World) (h : 121 ≤ n ∧ n ≤ 123) : Calls Tryz.prog 168 #[.int .u8 n] w (TypesPost n w) := by
  have HE := Lib.hid (show typesR n = _ by unfold typesR; rw [if_neg (by omega), if_neg (by omega), if_neg (by omega), if_neg (by omega), if_neg (by unfold between; simp; omega), if_neg (by omega), if_neg (by unfold between; simp; omega), if_neg (by unfold between; simp; omega), if_neg (by unfold between; simp; omega), if_pos (by unfold between; simp; omega)])
  have t0a : ((n : Int) == 63) = false := by simp; omega
  have t0b : ((n : Int) == 65) = false := by simp; omega
  have t1a : ((n : Int) == 64) = false := by simp; omega
  have t2a : ((n : Int) == 66) = false := by simp; omega
  have t3a : ((n : Int) == 69) = false := by simp; omega
  have t4 : between n 70 79 = false := by unfold between; simp; omega
  have t5a : ((n : Int) == 80) = false := by simp; omega
  have t6 : between n 81 90 = false := by unfold between; simp; omega
  have t7 : between n 103 105 = false := by unfold between; simp; omega
  have t8 : between n 106 120 = false := by unfold between; simp; omega
  have t9 : between n 121 123 = true := by unfold between; simp; omega
  clear h
  go_enter Tryz.func168, Tryz.ntmps168
  go_wp2_with (go_at_call 181; refine (between_any _ _ _ _).mono ?_; rintro e w' ⟨rfl, rfl⟩)
  go_ret2
  exact ⟨ret_two HE.out rfl rfl, Below.refl _ _⟩
set_option maxRecDepth 100000 in
theorem types_10 (n : Nat) (w : World) (h : 124 ≤ n ∧ n ≤ 138) : Calls Tryz.prog 168 #[.int .u8 n] w (TypesPost n w) := by
  have HE := Lib.hid (show typesR n = _ by unfold typesR; rw [if_neg (by omega), if_neg (by omega), if_neg (by omega), if_neg (by omega), if_neg (by unfold between; simp; omega), if_neg (by omega), if_neg (by unfold between; simp; omega), if_neg (by unfold between; simp; omega), if_neg (by unfold between; simp; omega), if_neg (by unfold between; simp; omega), if_pos (by unfold between; simp; omega)])
  have t0a : ((n : Int) == 63) = false := by simp; omega
  have t0b : ((n : Int) == 65) = false := by simp; omega
  have t1a : ((n : Int) == 64) = false := by simp; omega
  have t2a : ((n : Int) == 66) = false := by simp; omega
  have t3a : ((n : Int) == 69) = false := by simp; omega
  have t4 : between n 70 79 = false := by unfold between; simp; omega
  have t5a : ((n : Int) == 80) = false := by simp; omega
  have t6 : between n 81 90 = false := by unfold between; simp; omega
  have t7 : between n 103 105 = false := by unfold between; simp; omega
  have t8 : between n 106 120 = false := by unfold between; simp; omega
  have t9 : between n 121 123 = false := by unfold between; simp; omega
  have t10 : between n 124 138 = true := by unfold between; simp; omega
  clear h
  go_enter Tryz.func168, Tryz.ntmps168
  go_wp2_with (go_at_call 181; refine (between_any _ _ _ _).mono ?_; rintro e w' ⟨rfl, rfl⟩)
  go_ret2
  exact ⟨ret_two HE.out rfl rfl, Below.refl _ _⟩
set_option maxRecDepth 100000 in
theorem types_11_167 (n : Nat) (w : World) (h : n = 167) : Calls Tryz.prog 168 #[.int .u8 n] w (TypesPost n w) := by
  have HE := Lib.hid (show typesR n = _ by unfold typesR; rw [if_neg (by omega), if_neg (by omega), if_neg (by omega), if_neg (by omega), if_neg (by unfold between; simp; omega), if_neg (by omega), if_neg (by unfold between; simp; omega), if_neg (by unfold between; simp; omega), if_neg (by unfold between; simp; omega), if_neg (by unfold between; simp; omega), if_neg (by unfold between; simp; omega), if_pos (by omega)])
  have t0a : ((n : Int) == 63) = false := by simp; omega
  have t0b : ((n : Int) == 65) = false := by simp; omega
  have t1a : ((n : Int) == 64) = false := by simp; omega
  have t2a : ((n : Int) == 66) = false := by simp; omega
  have t3a : ((n : Int) == 69) = false := by simp; omega
  have t4 : between n 70 79 = false := by unfold between; simp; omega
  have t5a : ((n : Int) == 80) = false := by simp; omega
  have t6 : between n 81 90 = false := by unfold between; simp; omega
  have t7 : between n 103 105 = false := by unfold between; simp; omega
  have t8 : between n 106 120 = false := by unfold between; simp; omega
  have t9 : between n 121 123 = false := by unfold between; simp; omega
  have t10 : between n 124 138 = false := by unfold between; simp; omega
  have t11a : ((n : Int) == 167) = true := by simp; omega
  clear h
  go_enter Tryz.func168, Tryz.ntmps168
  go_wp2_with (go_at_call 181; refine (between_any _ _ _ _).mono ?_; rintro e w' ⟨rfl, rfl⟩)
  go_ret2
  exact ⟨ret_two HE.out rfl rfl, Below.refl _ _⟩
set_option maxRecDepth 100000 in
theorem types_12_172 (n : Nat) (w : World) (h : n = 172) : Calls Tryz.prog 168 #[.int .u8 n] w (TypesPost n w) := by
  have HE := Lib.hid (show typesR n = _ by unfold typesR; rw [if_neg (by omega), if_neg (by omega), if_neg (by omega), if_neg (by omega), if_neg (by unfold between; simp; omega), if_neg (by omega), if_neg (by unfold between; simp; omega), if_neg (by unfold between; simp; omega), if_neg (by unfold between; simp; omega), if_neg (by unfold between; simp; omega), if_neg (by unfold between; simp; omega), if_neg (by omega), if_pos (by omega)])
  have t0a : ((n : Int) == 63) = false := by simp; omega
  have t0b : ((n : Int) == 65) = false := by simp; omega
  have t1a : ((n : Int) == 64) = false := by simp; omega
  have t2a : ((n : Int) == 66) = false := by simp; omega
  have t3a : ((n : Int) == 69) = false := by simp; omega
  have t4 : between n 70 79 = false := by unfold between; simp; omega
  have t5a : ((n : Int) == 80) = false := by simp; omega
  have t6 : between n 81 90 = false := by unfold between; simp; omega
  have t7 : between n 103 105 = false := by unfold between; simp; omega
  have t8 : between n 106 120 = false := by unfold between; simp; omega
  have t9 : between n 121 123 = false := by unfold between; simp; omega
  have t10 : between n 124 138 = false := by unfold between; simp; omega
  have t11a : ((n : Int) == 167) = false := by simp; omega
  have t12a : ((n : Int) == 172) = true := by simp; omega
  clear h
  go_enter Tryz.func168, Tryz.ntmps168
  go_wp2_with (go_at_call 181; refine (between_any _ _ _ _).mono ?_; rintro e w' ⟨rfl, rfl⟩)
  go_ret2
  exact ⟨ret_two HE.out rfl rfl, Below.refl _ _⟩
set_option maxRecDepth 100000 in
theorem types_12_173 (n : Nat) (w : World) (h : n = 173) : Calls Tryz.prog 168 #[.int .u8 n] w (TypesPost n w) := by
  have HE := Lib.hid (show typesR n = _ by unfold typesR; rw [if_neg (by omega), if_neg (by omega), if_neg (by omega), if_neg (by omega), if_neg (by unfold between; simp; omega), if_neg (by omega), if_neg (by unfold between; simp; omega), if_neg (by unfold between; simp; omega), if_neg (by unfold between; simp; omega), if_neg (by unfold between; simp; omega), if_neg (by unfold between; simp; omega), if_neg (by omega), if_pos (by omega)])
  have t0a : ((n : Int) == 63) = false := by simp; omega
  have t0b : ((n : Int) == 65) = false := by simp; omega
  have t1a : ((n : Int) == 64) = false := by simp; omega
  have t2a : ((n : Int) == 66) = false := by simp; omega
  have t3a : ((n : Int) == 69) = false := by simp; omega
  have t4 : between n 70 79 = false := by unfold between; simp; omega
  have t5a : ((n : Int) == 80) = false := by simp; omega
  have t6 : between n 81 90 = false := by unfold between; simp; omega
  have t7 : between n 103 105 = false := by unfold between; simp; omega
  have t8 : between n 106 120 = false := by unfold between; simp; omega
  have t9 : between n 121 123 = false := by unfold between; simp; omega
  have t10 : between n 124 138 = false := by unfold between; simp; omega
  have t11a : ((n : Int) == 167) = false := by simp; omega
  have t12a : ((n : Int) == 172) = false := by simp; omega
  have t12b : ((n : Int) == 173) = true := by simp; omega
  clear h
  go_enter Tryz.func168, Tryz.ntmps168
  go_wp2_with (go_at_call 181; refine (between_any _ _ _ _).mono ?_; rintro e w' ⟨rfl, rfl⟩)
  go_ret2
  exact ⟨ret_two HE.out rfl rfl, Below.refl _ _⟩
set_option maxRecDepth 100000 in
theorem types_else (n : Nat) (w : World) (hT : Tabs w) (hn : n ≤ 255) (h0 : ¬ (n = 63 ∨ n = 65)) (h1 : ¬ (n = 64)) (h2 : ¬ (n = 66)) (h3 : ¬ (n = 69)) (h4 : ¬ (70 ≤ n ∧ n ≤ 79)) (h5 : ¬ (n = 80)) (h6 : ¬ (81 ≤ n ∧ n ≤ 90)) (h7 : ¬ (103 ≤ n ∧ n ≤ 105)) (h8 : ¬ (106 ≤ n ∧ n ≤ 120)) (h9 : ¬ (121 ≤ n ∧ n ≤ 123)) (h10 : ¬ (124 ≤ n ∧ n ≤ 138)) (h11 : ¬ (n = 167)) (h12 : ¬ (n = 172 ∨ n = 173)) : Calls Tryz.prog 168 #[.int .u8 n] w (TypesPost n w) := by
  have HE := Lib.hid (show typesR n = _ by unfold typesR; rw [if_neg (by omega), if_neg (by omega), if_neg (by omega), if_neg (by omega), if_neg (by unfold between; simp; omega), if_neg (by omega), if_neg (by unfold between; simp; omega), if_neg (by unfold between; simp; omega), if_neg (by unfold between; simp; omega), if_neg (by unfold between; simp; omega), if_neg (by unfold between; simp; omega), if_neg (by omega), if_neg (by omega)])
  have t0a : ((n : Int) == 63) = false := by simp; omega
  have t0b : ((n : Int) == 65) = false := by simp; omega
  have t1a : ((n : Int) == 64) = false := by simp; omega
  have t2a : ((n : Int) == 66) = false := by simp; omega
  have t3a : ((n : Int) == 69) = false := by simp; omega
  have t4 : between n 70 79 = false := by unfold between; simp; omega
  have t5a : ((n : Int) == 80) = false := by simp; omega
  have t6 : between n 81 90 = false := by unfold between; simp; omega
  have t7 : between n 103 105 = false := by unfold between; simp; omega
  have t8 : between n 106 120 = false := by unfold between; simp; omega
  have t9 : between n 121 123 = false := by unfold between; simp; omega
  have t10 : between n 124 138 = false := by unfold between; simp; omega
  have t11a : ((n : Int) == 167) = false := by simp; omega
  have t12a : ((n : Int) == 172) = false := by simp; omega
  have t12b : ((n : Int) == 173) = false := by simp; omega
  clear h0 h1 h2 h3 h4 h5 h6 h7 h8 h9 h10 h11 h12
  have HT := Lib.hid hT
  clear hT
  go_enter Tryz.func168, Tryz.ntmps168
  go_wp2_with (first | (go_at_call 181; refine (between_any _ _ _ _).mono ?_; rintro e w' ⟨rfl, rfl⟩) | (go_at_call 182; go_must (refine (accTypes_any n _ HT.out hn).mono ?_; rintro e w' ⟨rfl, hb⟩; have HB := Lib.hid hb; clear hb)))
  go_ret2
  exact ⟨ret_two HE.out rfl rfl, HB.out⟩
theorem types_any (n : Nat) (w : World) (hT : Tabs w) (hn : n ≤ 255) : Calls Tryz.prog 168 #[.int .u8 n] w (TypesPost n w) := by
  by_cases h0_63 : n = 63
  · exact types_0_63 n w h0_63
  by_cases h0_65 : n = 65
  · exact types_0_65 n w h0_65
  by_cases h1_64 : n = 64
  · exact types_1_64 n w h1_64
  by_cases h2_66 : n = 66
  · exact types_2_66 n w h2_66
  by_cases h3_69 : n = 69
  · exact types_3_69 n w h3_69
  by_cases h4 : 70 ≤ n ∧ n ≤ 79
  · exact types_4 n w h4
  by_cases h5_80 : n = 80
  · exact types_5_80 n w h5_80
  by_cases h6 : 81 ≤ n ∧ n ≤ 90
  · exact types_6 n w h6
  by_cases h7 : 103 ≤ n ∧ n ≤ 105
  · exact types_7 n w h7
  by_cases h8 : 106 ≤ n ∧ n ≤ 120
  · exact types_8 n w h8
  by_cases h9 : 121 ≤ n ∧ n ≤ 123
  · exact types_9 n w h9
  by_cases h10 : 124 ≤ n ∧ n ≤ 138
  · exact types_10 n w h10
  by_cases h11_167 : n = 167
  · exact types_11_167 n w h11_167
  by_cases h12_172 : n = 172
  · exact types_12_172 n w h12_172
  by_cases h12_173 : n = 173
  · exact types_12_173 n w h12_173
  exact types_else n w hT hn (by omega) (by omega) (by omega) (by omega) (by omega) (by omega) (by omega) (by omega) (by omega) (by omega) (by omega) (by omega) (by omega)

theorem float_const (n : Nat) (w : World) (h : n = 42 ∨ n = 43 ∨ n = 56 ∨ n = 57 ∨ n = 67 ∨ n = 68) : Calls Tryz.prog 176 #[.int .u8 n] w fun e w' => e = .returned (.bool (floatR n)) ∧ w = w' := by
  rcases h with rfl | rfl | rfl | rfl | rfl | rfl
  all_goals
    go_enter Tryz.func176, Tryz.ntmps176
    go_wp2
    go_ret
    exact ⟨rfl, rfl⟩
theorem float_else (n : Nat) (w : World) (h : ¬ (n = 42 ∨ n = 43 ∨ n = 56 ∨ n = 57 ∨ n = 67 ∨ n = 68)) : Calls Tryz.prog 176 #[.int .u8 n] w fun e w' => e = .returned (.bool (floatR n)) ∧ w = w' := by
  have d42 : ((n : Int) == 42) = false := by simp; omega
  have d43 : ((n : Int) == 43) = false := by simp; omega
  have d56 : ((n : Int) == 56) = false := by simp; omega
  have d57 : ((n : Int) == 57) = false := by simp; omega
  have d67 : ((n : Int) == 67) = false := by simp; omega
  have d68 : ((n : Int) == 68) = false := by simp; omega
  have HE := Lib.hid (show floatR n = (between n 91 102 || between n 139 166 || between n 168 171 || between n 174 191) by unfold floatR; rw [decide_eq_false h]; rfl)
  clear h
  by_cases b1 : between n 91 102 = true
  · rw [b1] at HE
    go_enter Tryz.func176, Tryz.ntmps176
    go_wp2_with (go_at_call 181; refine (between_any _ _ _ _).mono ?_; rintro e w' ⟨rfl, rfl⟩)
    go_ret
    exact ⟨ret_bool (by rw [HE.out]; rfl), rfl⟩
  · have b1 : between n 91 102 = false := by simpa using b1
    rw [b1] at HE
    by_cases b2 : between n 139 166 = true
    · rw [b2] at HE
      go_enter Tryz.func176, Tryz.ntmps176
      go_wp2_with (go_at_call 181; refine (between_any _ _ _ _).mono ?_; rintro e w' ⟨rfl, rfl⟩)
      go_ret
      exact ⟨ret_bool (by rw [HE.out]; rfl), rfl⟩
    · have b2 : between n 139 166 = false := by simpa using b2
      rw [b2] at HE
      by_cases b3 : between n 168 171 = true
      · rw [b3] at HE
        go_enter Tryz.func176, Tryz.ntmps176
        go_wp2_with (go_at_call 181; refine (between_any _ _ _ _).mono ?_; rintro e w' ⟨rfl, rfl⟩)
        go_ret
        exact ⟨ret_bool (by rw [HE.out]; rfl), rfl⟩
      · have b3 : between n 168 171 = false := by simpa using b3
        rw [b3] at HE
        go_enter Tryz.func176, Tryz.ntmps176
        go_wp2_with (go_at_call 181; refine (between_any _ _ _ _).mono ?_; rintro e w' ⟨rfl, rfl⟩)
        go_ret
        exact ⟨ret_bool (by rw [HE.out]; rfl), rfl⟩
theorem float_any (n : Nat) (w : World) : Calls Tryz.prog 176 #[.int .u8 n] w fun e w' => e = .returned (.bool (floatR n)) ∧ w = w' := by
  by_cases h : n = 42 ∨ n = 43 ∨ n = 56 ∨ n = 57 ∨ n = 67 ∨ n = 68
  · exact float_const n w h
  · exact float_else n w h

theorem check_any (n : Nat) (w : World) (hT : Tabs w) (hn : n ≤ 255) : Calls Tryz.prog 161 #[.int .u8 n] w fun e w' => e = .returned (.int .i64 (checkR n)) ∧ w = w' := by
  have HT := Lib.hid hT
  clear hT
  by_cases h : nameR n = []
  · have s1 : (S (nameR n)).toList.isEmpty = true := by rw [S_toList, h]; rfl
    by_cases hf : floatR n = true
    · have HE := Lib.hid (show checkR n = 8 by unfold checkR; rw [if_neg (by simpa using h), if_pos hf])
      clear h
      go_enter Tryz.func161, Tryz.ntmps161
      go_wp2_with (first | (go_at_call 167; go_must (refine (name_any n _ HT.out hn).mono ?_; rintro e w' ⟨rfl, rfl⟩)) | (go_at_call 176; go_must (refine (float_any n _).mono ?_; rintro e w' ⟨rfl, rfl⟩)))
      go_ret
      exact ⟨ret_int (by rw [HE.out]; rfl), rfl⟩
    · have hf : floatR n = false := by simpa using hf
      have HE := Lib.hid (show checkR n = 9 by unfold checkR; rw [if_neg (by simpa using h), if_neg (by rw [hf]; decide)])
      clear h
      go_enter Tryz.func161, Tryz.ntmps161
      go_wp2_with (first | (go_at_call 167; go_must (refine (name_any n _ HT.out hn).mono ?_; rintro e w' ⟨rfl, rfl⟩)) | (go_at_call 176; go_must (refine (float_any n _).mono ?_; rintro e w' ⟨rfl, rfl⟩)))
      go_ret
      exact ⟨ret_int (by rw [HE.out]; rfl), rfl⟩
  · have s1 : (S (nameR n)).toList.isEmpty = false := by rw [S_toList]; simpa using h
    have HE := Lib.hid (show checkR n = 0 by unfold checkR; rw [if_pos h])
    clear h
    go_enter Tryz.func161, Tryz.ntmps161
    go_wp2_with (first | (go_at_call 167; go_must (refine (name_any n _ HT.out hn).mono ?_; rintro e w' ⟨rfl, rfl⟩)) | (go_at_call 176; go_must (refine (float_any n _).mono ?_; rintro e w' ⟨rfl, rfl⟩)))
    go_ret
    exact ⟨ret_int (by rw [HE.out]; rfl), rfl⟩

/-- What Of hands back. -/
def infV (i : Inf) : Value := .agg #[.string (S i.name), .int .i64 i.imm, .string (S i.ps), .string (S i.rs), .bool i.free]
theorem of_any (n : Nat) (w : World) (hT : Tabs w) (hn : n ≤ 255) : Calls Tryz.prog 151 #[.int .u8 n] w fun e w' => e = .returned (infV (infR n)) ∧ Below w.heap.size w w' := by
  have HT := Lib.hid hT
  have HT1 := Lib.hid (fun (o : Obj) => hT.below ((Below.refl w.heap.size w).alloc (Nat.le_refl _) o))
  clear hT
  by_cases h : nameR n = []
  · have s1 : (S (nameR n)).toList.isEmpty = true := by rw [S_toList, h]; rfl
    have HE := Lib.hid (show infR n = ⟨[], 0, [], [], false⟩ by unfold infR; rw [if_pos h])
    clear h
    go_enter Tryz.func151, Tryz.ntmps151
    go_wp2_with (go_at_call 167; go_must (refine (name_any n _ (HT1.out _) hn).mono ?_; rintro e w' ⟨rfl, rfl⟩))
    exact bodyPost_ret (v := infV ⟨[], 0, [], [], false⟩) (by simp [results, Tryz.results151, go_sem]; rfl) rfl ⟨by rw [HE.out], (Below.refl _ _).alloc (Nat.le_refl _) _⟩
  · have s1 : (S (nameR n)).toList.isEmpty = false := by rw [S_toList]; simpa using h
    have HE := Lib.hid (show infR n = ⟨nameR n, immR n, (typesR n).1, (typesR n).2, freeR n⟩ by unfold infR; rw [if_neg h])
    clear h
    go_enter Tryz.func151, Tryz.ntmps151
    go_wp2_with (first | (go_at_call 167; go_must (refine (name_any n _ (HT1.out _) hn).mono ?_; rintro e w' ⟨rfl, rfl⟩)) | (go_at_call 169; go_must (refine (free_any n _ hn).mono ?_; rintro e w' ⟨rfl, rfl⟩)) | (go_at_call 168; go_must (refine (types_any n _ (HT1.out _) hn).mono ?_; rintro e w1 ⟨rfl, hb1⟩; have HB1 := Lib.hid hb1; have hz1 := hb1.size; clear hb1)) | (go_at_call 164; go_must (refine (imm_any n _ ((HT1.out _).below HB1.out) hn).mono ?_; rintro e w2 ⟨rfl, hb2⟩; have hz2 := hb2.size; have hW := Lib.hid (((Whole.made w 177 #[.string ⟨#[]⟩, .int .i64 0, .string ⟨#[]⟩, .string ⟨#[]⟩, .bool false]).below HB1.out).below hb2); have HB2 := Lib.hid hb2; clear hb2; have c0 : w2.cell? ⟨w.heap.size, 0, none⟩ = some (.string ⟨#[]⟩) := hW.out.cell 0; have c1 : w2.cell? ⟨w.heap.size, 1, none⟩ = some (.int .i64 0) := hW.out.cell 1; have c2 : w2.cell? ⟨w.heap.size, 2, none⟩ = some (.string ⟨#[]⟩) := hW.out.cell 2; have c3 : w2.cell? ⟨w.heap.size, 3, none⟩ = some (.string ⟨#[]⟩) := hW.out.cell 3; have c4 : w2.cell? ⟨w.heap.size, 4, none⟩ = some (.bool false) := hW.out.cell 4; have f0 := hW.out.frozen 0; have f1 := hW.out.frozen 1; have f2 := hW.out.frozen 2; have f3 := hW.out.frozen 3; have f4 := hW.out.frozen 4)))
    exact bodyPost_ret (v := infV ⟨nameR n, immR n, (typesR n).1, (typesR n).2, freeR n⟩) (by simp [results, Tryz.results151, go_sem, infV, c0, c1, c2, c3, c4]) rfl ⟨by rw [HE.out],
      ((((((((Below.refl _ _).alloc (Nat.le_refl _) _).trans (HB1.out.mono (by simp))).trans (HB2.out.mono (by simp at hz1; omega))).setCell (Nat.le_refl _) _).setCell (Nat.le_refl _) _).setCell (Nat.le_refl _) _).setCell (Nat.le_refl _) _).setCell (Nat.le_refl _) _⟩
end Go.Proofs.YtebgmfjgapmpfaaGreatDoor

/- An instruction as plain data; what a value and a box hold of it. -/
namespace Go.Proofs.YtebgmfjgapmpfaaGreatDoor
open Go.RowKit
set_option linter.unusedVariables false

structure I where
  op : UInt8
  a : Int
  b : Int
  l : List Int
abbrev I.n (i : I) : Nat := i.op.toNat
theorem I.n_le (i : I) : i.n ≤ 255 := by have := i.op.toNat_lt; show i.op.toNat ≤ 255; omega
def cells32 (l : List Int) : List Value := l.map (.int .u32)
theorem cells32_length (l : List Int) : (cells32 l).length = l.length := by simp [cells32]
/-- Its numbers are what their kinds hold. -/
structure I.Ok (i : I) : Prop where
  a0 : 0 ≤ i.a
  a1 : i.a ≤ 18446744073709551615
  b0 : 0 ≤ i.b
  b1 : i.b ≤ 18446744073709551615
  l0 : ∀ c ∈ i.l, 0 ≤ c ∧ c ≤ 4294967295
/-- The value, its labels at A. -/
abbrev insV (i : I) (A : Option Addr) (c : Nat) : Value := .agg #[.int .u8 i.op.toNat, .int .u64 i.a, .int .u64 i.b, .slice A i.l.length c]
abbrev insC (i : I) (A : Option Addr) (c : Nat) : Array Value := #[.int .u8 i.op.toNat, .int .u64 i.a, .int .u64 i.b, .slice A i.l.length c]
/-- A box of the function's own that holds it. -/
def BoxI (w W : World) (i : I) (A : Option Addr) (c : Nat) : Prop := Whole W w.heap.size 44 (insC i A c) ∧ Below w.heap.size w W
section
variable {w W W' : World} {i : I} {A : Option Addr} {c : Nat}
theorem BoxI.start (w : World) (i : I) (A : Option Addr) (c : Nat) : BoxI w (w.alloc (.cells (insC i A c) 44)) i A c := ⟨Whole.made _ _ _, (Below.refl _ _).alloc (Nat.le_refl _) _⟩
theorem BoxI.on (h : BoxI w W i A c) (hb : Below W.heap.size W W') : BoxI w W' i A c := ⟨h.1.below hb, h.2.trans (hb.mono h.2.size)⟩
theorem BoxI.drewN (h : BoxI w W i A c) (n : Nat) : BoxI w (W.drewN n) i A c := ⟨h.1, ⟨h.2.os, h.2.tape, h.2.output, h.2.size, h.2.block⟩⟩
theorem BoxI.lt (h : BoxI w W i A c) : w.heap.size < W.heap.size := h.1.lt
theorem BoxI.c0 (h : BoxI w W i A c) : W.cell? ⟨w.heap.size, 0, none⟩ = some (.int .u8 i.op.toNat) := h.1.cell 0
theorem BoxI.c1 (h : BoxI w W i A c) : W.cell? ⟨w.heap.size, 1, none⟩ = some (.int .u64 i.a) := h.1.cell 1
theorem BoxI.c2 (h : BoxI w W i A c) : W.cell? ⟨w.heap.size, 2, none⟩ = some (.int .u64 i.b) := h.1.cell 2
theorem BoxI.c3 (h : BoxI w W i A c) : W.cell? ⟨w.heap.size, 3, none⟩ = some (.slice A i.l.length c) := h.1.cell 3
end

/-- A block's type, as a number. -/
def blockZ (t : Int) : Int := if t = 64 then 0 else if 255 < t then 7 else valueZ t
/-- May A and B be those of such immediates? -/
def numsZ (m : Nat) (a b : Int) : Int :=
  if m = 1 then blockZ a else if m = 0 ∨ m = 9 then (if a = 0 then 0 else 1) else if m = 11 then 0 else if a ≤ 4294967295 ∧ b ≤ 4294967295 then 0 else 1
def rightZ (i : I) : Int :=
  if checkR i.n ≠ 0 then checkR i.n
  else if 0 < i.l.length ∧ immR i.n ≠ 3 then 1
  else if 10000 < i.l.length then 29
  else if i.b ≠ 0 ∧ immR i.n ≠ 8 then 1
  else numsZ (immR i.n) i.a i.b
/-- What both know of an opcode. -/
def sameImm (n : Nat) : Bool := checkR n != 0 || ((infR n).imm == immR n && ((refR n).getD row0).imm == immR n)
theorem imm_all : ∀ n, n < 256 → sameImm n = true := by decide +kernel
theorem imm_same {n : Nat} (hn : n ≤ 255) (h : checkR n = 0) : (infR n).imm = immR n ∧ ((refR n).getD row0).imm = immR n := by
  have := imm_all n (by omega)
  unfold sameImm at this
  rw [h] at this
  simpa using this
theorem check_same {n : Nat} (hn : n ≤ 255) : checkR n = refCheck n := by
  have := tell_all n (by omega)
  unfold sameTell at this
  simp only [Bool.and_eq_true, beq_iff_eq] at this
  exact this.1.1
theorem imm_none {n : Nat} (h : immR n = 9 ∨ True) : True := trivial
theorem field_imm (a c d : ByteArray) (b : Int) (f : Bool) (wx : World) : (Instr.field 177 (.agg #[.string a, .int .i64 b, .string c, .string d, .bool f]) 1).run Tryz.prog wx = .ok (.int .i64 b) wx := by kernel_rfl

theorem argUnless_any (p : Bool) (w : World) : Calls Tryz.prog 177 #[.bool p] w fun e w' => e = .returned (.int .i64 (if p then 0 else 1)) ∧ w = w' := by
  cases p
  · go_enter Tryz.func177, Tryz.ntmps177
    go_wp2
    go_ret
    exact ⟨rfl, rfl⟩
  · go_enter Tryz.func177, Tryz.ntmps177
    go_wp2
    go_ret
    exact ⟨rfl, rfl⟩
theorem block_any (t : Int) (w : World) (h0 : 0 ≤ t) : Calls Tryz.prog 170 #[.int .u64 t] w fun e w' => e = .returned (.int .i64 (blockZ t)) ∧ w = w' := by
  by_cases h1 : t = 64
  · subst h1
    go_enter Tryz.func170, Tryz.ntmps170
    go_wp2
    go_ret
    exact ⟨rfl, rfl⟩
  · have b1 : (t == 64) = false := by simpa using h1
    by_cases h2 : 255 < t
    · have HE := Lib.hid (show blockZ t = 7 by unfold blockZ; rw [if_neg h1, if_pos h2])
      go_enter Tryz.func170, Tryz.ntmps170
      go_wp2
      go_ret
      exact ⟨ret_int HE.out.symm, rfl⟩
    · have HE := Lib.hid (show blockZ t = valueZ t by unfold blockZ; rw [if_neg h1, if_neg h2])
      have b2 : decide (255 < t) = false := by simpa using h2
      have hw : IntKind.u8.wrap t = t := by simp [IntKind.wrap, IntKind.bits, IntKind.signed]; omega
      go_enter Tryz.func170, Tryz.ntmps170
      go_wp2_with (go_at_call 71; go_must (refine (value_any _ _).mono ?_; rintro e w' ⟨rfl, rfl⟩))
      go_ret
      exact ⟨ret_int HE.out.symm, rfl⟩
end Go.Proofs.YtebgmfjgapmpfaaGreatDoor

/- Right: the program's and the reference's. (By gen/genRight.py.) -/
namespace Go.Proofs.YtebgmfjgapmpfaaGreatDoor
open Go.RowKit
set_option linter.unusedVariables false
set_option maxRecDepth 100000

def IntPost (z : Int) (w : World) (e : Ending) (w' : World) : Prop := e = .returned (.int .i64 z) ∧ Below w.heap.size w w'
theorem ret_below {z y : Int} {w w' : World} (h : z = y) (hb : Below w.heap.size w w') : IntPost y w (.returned (.int .i64 z)) w' := ⟨by rw [h], hb⟩

theorem numbers_any (i : I) (A : Option Addr) (c m : Nat) (w : World) (h : i.Ok) :
    Calls Tryz.prog 162 #[insV i A c, .int .i64 m] w (IntPost (numsZ m i.a i.b) w) := by
  obtain ⟨a0, a1, b0, b1, _⟩ := h
  have HB := Lib.hid (BoxI.start w i A c)
  by_cases m1 : m = 1
  · subst m1
    have HE := Lib.hid (show numsZ 1 i.a i.b = blockZ i.a by unfold numsZ; rw [if_pos rfl])
    go_enter Tryz.func162, Tryz.ntmps162
    go_wp2_with (go_at_call 170; go_must (refine (block_any _ _ a0).mono ?_; rintro e w' ⟨rfl, rfl⟩))
    go_ret
    exact ret_below (by rw [HE.out]) HB.out.2
  · have d1 : ((m : Int) == 1) = false := by simp; omega
    by_cases m0 : m = 0 ∨ m = 9
    · rcases m0 with m0 | m0
      · subst m0
        by_cases hz : i.a = 0
        · have dz : (i.a == 0) = true := by simpa using hz
          have HE := Lib.hid (show numsZ 0 i.a i.b = 0 by unfold numsZ; rw [if_neg (by omega), if_pos (by omega), if_pos hz])
          clear hz
          go_enter Tryz.func162, Tryz.ntmps162
          go_wp2_with (go_at_call 177; go_must (refine (argUnless_any _ _).mono ?_; rintro e w' ⟨rfl, rfl⟩))
          go_ret
          exact ret_below (by rw [HE.out]) HB.out.2
        · have dz : (i.a == 0) = false := by simpa using hz
          have HE := Lib.hid (show numsZ 0 i.a i.b = 1 by unfold numsZ; rw [if_neg (by omega), if_pos (by omega), if_neg hz])
          clear hz
          go_enter Tryz.func162, Tryz.ntmps162
          go_wp2_with (go_at_call 177; go_must (refine (argUnless_any _ _).mono ?_; rintro e w' ⟨rfl, rfl⟩))
          go_ret
          exact ret_below (by rw [HE.out]) HB.out.2
      · subst m0
        by_cases hz : i.a = 0
        · have dz : (i.a == 0) = true := by simpa using hz
          have HE := Lib.hid (show numsZ 9 i.a i.b = 0 by unfold numsZ; rw [if_neg (by omega), if_pos (by omega), if_pos hz])
          clear hz
          go_enter Tryz.func162, Tryz.ntmps162
          go_wp2_with (go_at_call 177; go_must (refine (argUnless_any _ _).mono ?_; rintro e w' ⟨rfl, rfl⟩))
          go_ret
          exact ret_below (by rw [HE.out]) HB.out.2
        · have dz : (i.a == 0) = false := by simpa using hz
          have HE := Lib.hid (show numsZ 9 i.a i.b = 1 by unfold numsZ; rw [if_neg (by omega), if_pos (by omega), if_neg hz])
          clear hz
          go_enter Tryz.func162, Tryz.ntmps162
          go_wp2_with (go_at_call 177; go_must (refine (argUnless_any _ _).mono ?_; rintro e w' ⟨rfl, rfl⟩))
          go_ret
          exact ret_below (by rw [HE.out]) HB.out.2
    · have d0 : ((m : Int) == 0) = false := by simp; omega
      have d9 : ((m : Int) == 9) = false := by simp; omega
      by_cases m11 : m = 11
      · subst m11
        have HE := Lib.hid (show numsZ 11 i.a i.b = 0 by unfold numsZ; rw [if_neg (by omega), if_neg (by omega), if_pos rfl])
        go_enter Tryz.func162, Tryz.ntmps162
        go_wp2
        go_ret
        exact ret_below (by rw [HE.out]) HB.out.2
      · have d11 : ((m : Int) == 11) = false := by simp; omega
        by_cases ha : i.a ≤ 4294967295
        · have da : decide (i.a ≤ 4294967295) = true := by simpa using ha
          by_cases hz : i.b ≤ 4294967295
          · have dz : decide (i.b ≤ 4294967295) = true := by simpa using hz
            have HE := Lib.hid (show numsZ m i.a i.b = 0 by unfold numsZ; rw [if_neg m1, if_neg m0, if_neg m11, if_pos ⟨ha, hz⟩])
            clear hz
            go_enter Tryz.func162, Tryz.ntmps162
            go_wp2_with (go_at_call 177; go_must (refine (argUnless_any _ _).mono ?_; rintro e w' ⟨rfl, rfl⟩))
            go_ret
            exact ret_below (by rw [HE.out]) HB.out.2
          · have dz : decide (i.b ≤ 4294967295) = false := by simpa using hz
            have HE := Lib.hid (show numsZ m i.a i.b = 1 by unfold numsZ; rw [if_neg m1, if_neg m0, if_neg m11, if_neg (by omega)])
            go_enter Tryz.func162, Tryz.ntmps162
            go_wp2_with (go_at_call 177; go_must (refine (argUnless_any _ _).mono ?_; rintro e w' ⟨rfl, rfl⟩))
            go_ret
            exact ret_below (by rw [HE.out]) HB.out.2
        · have da : decide (i.a ≤ 4294967295) = false := by simpa using ha
          have HE := Lib.hid (show numsZ m i.a i.b = 1 by unfold numsZ; rw [if_neg m1, if_neg m0, if_neg m11, if_neg (by omega)])
          go_enter Tryz.func162, Tryz.ntmps162
          go_wp2_with (go_at_call 177; go_must (refine (argUnless_any _ _).mono ?_; rintro e w' ⟨rfl, rfl⟩))
          go_ret
          exact ret_below (by rw [HE.out]) HB.out.2

theorem right_any (i : I) (A : Option Addr) (c : Nat) (w : World) (h : i.Ok) (hT : Tabs w) (hl : (i.l.length : Int) ≤ 9223372036854775807) :
    Calls Tryz.prog 142 #[insV i A c] w (IntPost (rightZ i) w) := by
  have hn := i.n_le
  have HO := Lib.hid h
  have HT := Lib.hid hT
  have HB := Lib.hid (BoxI.start w i A c)
  have HT1 := Lib.hid (hT.below HB.out.2)
  clear hT h
  obtain ⟨k, hk⟩ : ∃ k, k = checkR i.n := ⟨_, rfl⟩
  have HC : Hid (∀ W, Tabs W → Calls Tryz.prog 161 #[.int .u8 i.op.toNat] W fun e w' => e = .returned (.int .i64 (k : Nat)) ∧ W = w') := fun W hW => by rw [hk]; exact check_any i.n W hW hn
  by_cases k0 : k = 0
  · subst k0
    obtain ⟨m, hm⟩ : ∃ m, m = immR i.n := ⟨_, rfl⟩
    obtain ⟨inf, hinf⟩ : ∃ inf, inf = infR i.n := ⟨_, rfl⟩
    have him : inf.imm = m := by rw [hinf, hm]; exact (imm_same hn hk.symm).1
    have HI : Hid (∀ W, Tabs W → Calls Tryz.prog 151 #[.int .u8 i.op.toNat] W fun e w' => e = .returned (infV inf) ∧ Below W.heap.size W w') := fun W hW => by rw [hinf]; exact of_any i.n W hW hn
    have hfield := fun z wx => field_imm (S inf.name) (S inf.ps) (S inf.rs) z inf.free wx
    have HR := Lib.hid (show rightZ i = if 0 < i.l.length ∧ m ≠ 3 then 1 else if 10000 < i.l.length then 29 else if i.b ≠ 0 ∧ m ≠ 8 then 1 else numsZ m i.a i.b by unfold rightZ; rw [← hk, ← hm]; rfl)
    have HN := Lib.hid (fun W => numbers_any i A c m W HO.out)
    clear hinf hm hk
    by_cases hl0 : 0 < i.l.length
    · have dl : decide (0 < (i.l.length : Int)) = true := decide_eq_true (by omega)
      by_cases m3 : m = 3
      · subst m3
        by_cases hl1 : 10000 < i.l.length
        · have dl1 : decide (10000 < (i.l.length : Int)) = true := decide_eq_true (by omega)
          have HE := Lib.hid (show rightZ i = 29 by rw [HR.out]; rw [if_neg (by omega), if_pos hl1])
          go_enter Tryz.func142, Tryz.ntmps142
          go_wp2_with (first
            | (go_at_call 161; go_must (refine (HC.out _ HT1.out).mono ?_; rintro e w' ⟨rfl, rfl⟩))
            | (go_at_call 151; go_must (refine (HI.out _ HT1.out).mono ?_; rintro e w1 ⟨rfl, hb⟩; unfold infV; have HB1 := Lib.hid (HB.out.on hb); have c1 := HB1.out.c0; have c2 := HB1.out.c1; have c3 := HB1.out.c2; have c4 := HB1.out.c3; clear hb))
            | (go_at_call 162; go_must (refine (HN.out _).mono ?_; rintro e w2 ⟨rfl, hb⟩; have HB2 := Lib.hid (HB1.out.on hb); clear hb)))
          go_ret
          exact ret_below HE.out.symm HB1.out.2
        · have dl1 : decide (10000 < (i.l.length : Int)) = false := decide_eq_false (by omega)
          by_cases hb0 : i.b = 0
          · have db : (i.b != 0) = false := by simp [hb0]
            have HE := Lib.hid (show rightZ i = numsZ 3 i.a i.b by rw [HR.out]; rw [if_neg (by omega), if_neg hl1]; rw [if_neg (by omega)])
            clear hb0
            go_enter Tryz.func142, Tryz.ntmps142
            go_wp2_with (first
              | (go_at_call 161; go_must (refine (HC.out _ HT1.out).mono ?_; rintro e w' ⟨rfl, rfl⟩))
              | (go_at_call 151; go_must (refine (HI.out _ HT1.out).mono ?_; rintro e w1 ⟨rfl, hb⟩; unfold infV; have HB1 := Lib.hid (HB.out.on hb); have c1 := HB1.out.c0; have c2 := HB1.out.c1; have c3 := HB1.out.c2; have c4 := HB1.out.c3; clear hb))
              | (go_at_call 162; go_must (refine (HN.out _).mono ?_; rintro e w2 ⟨rfl, hb⟩; have HB2 := Lib.hid (HB1.out.on hb); clear hb)))
            go_ret
            exact ret_below HE.out.symm HB2.out.2
          · have db : (i.b != 0) = true := by simpa using hb0
            have d8 : ((3 : Int) != 8) = true := by decide
            have HE := Lib.hid (show rightZ i = 1 by rw [HR.out]; rw [if_neg (by omega), if_neg hl1]; rw [if_pos (by omega)])
            go_enter Tryz.func142, Tryz.ntmps142
            go_wp2_with (first
              | (go_at_call 161; go_must (refine (HC.out _ HT1.out).mono ?_; rintro e w' ⟨rfl, rfl⟩))
              | (go_at_call 151; go_must (refine (HI.out _ HT1.out).mono ?_; rintro e w1 ⟨rfl, hb⟩; unfold infV; have HB1 := Lib.hid (HB.out.on hb); have c1 := HB1.out.c0; have c2 := HB1.out.c1; have c3 := HB1.out.c2; have c4 := HB1.out.c3; clear hb))
              | (go_at_call 162; go_must (refine (HN.out _).mono ?_; rintro e w2 ⟨rfl, hb⟩; have HB2 := Lib.hid (HB1.out.on hb); clear hb)))
            go_ret
            exact ret_below HE.out.symm HB1.out.2
      · have d3 : ((m : Int) != 3) = true := by simp; omega
        have HE := Lib.hid (show rightZ i = 1 by rw [HR.out]; rw [if_pos ⟨hl0, m3⟩])
        go_enter Tryz.func142, Tryz.ntmps142
        go_wp2_with (first
          | (go_at_call 161; go_must (refine (HC.out _ HT1.out).mono ?_; rintro e w' ⟨rfl, rfl⟩))
          | (go_at_call 151; go_must (refine (HI.out _ HT1.out).mono ?_; rintro e w1 ⟨rfl, hb⟩; unfold infV; have HB1 := Lib.hid (HB.out.on hb); have c1 := HB1.out.c0; have c2 := HB1.out.c1; have c3 := HB1.out.c2; have c4 := HB1.out.c3; clear hb))
          | (go_at_call 162; go_must (refine (HN.out _).mono ?_; rintro e w2 ⟨rfl, hb⟩; have HB2 := Lib.hid (HB1.out.on hb); clear hb)))
        go_ret
        exact ret_below HE.out.symm HB1.out.2
    · have dl : decide (0 < (i.l.length : Int)) = false := decide_eq_false (by omega)
      have dl1 : decide (10000 < (i.l.length : Int)) = false := decide_eq_false (by omega)
      by_cases hb0 : i.b = 0
      · have db : (i.b != 0) = false := by simp [hb0]
        have HE := Lib.hid (show rightZ i = numsZ m i.a i.b by rw [HR.out]; rw [if_neg (by omega), if_neg (by omega)]; rw [if_neg (by omega)])
        clear hb0
        go_enter Tryz.func142, Tryz.ntmps142
        go_wp2_with (first
          | (go_at_call 161; go_must (refine (HC.out _ HT1.out).mono ?_; rintro e w' ⟨rfl, rfl⟩))
          | (go_at_call 151; go_must (refine (HI.out _ HT1.out).mono ?_; rintro e w1 ⟨rfl, hb⟩; unfold infV; have HB1 := Lib.hid (HB.out.on hb); have c1 := HB1.out.c0; have c2 := HB1.out.c1; have c3 := HB1.out.c2; have c4 := HB1.out.c3; clear hb))
          | (go_at_call 162; go_must (refine (HN.out _).mono ?_; rintro e w2 ⟨rfl, hb⟩; have HB2 := Lib.hid (HB1.out.on hb); clear hb)))
        go_ret
        exact ret_below HE.out.symm HB2.out.2
      · have db : (i.b != 0) = true := by simpa using hb0
        by_cases m8 : m = 8
        · subst m8
          have HE := Lib.hid (show rightZ i = numsZ 8 i.a i.b by rw [HR.out]; rw [if_neg (by omega), if_neg (by omega)]; rw [if_neg (by omega)])
          go_enter Tryz.func142, Tryz.ntmps142
          go_wp2_with (first
            | (go_at_call 161; go_must (refine (HC.out _ HT1.out).mono ?_; rintro e w' ⟨rfl, rfl⟩))
            | (go_at_call 151; go_must (refine (HI.out _ HT1.out).mono ?_; rintro e w1 ⟨rfl, hb⟩; unfold infV; have HB1 := Lib.hid (HB.out.on hb); have c1 := HB1.out.c0; have c2 := HB1.out.c1; have c3 := HB1.out.c2; have c4 := HB1.out.c3; clear hb))
            | (go_at_call 162; go_must (refine (HN.out _).mono ?_; rintro e w2 ⟨rfl, hb⟩; have HB2 := Lib.hid (HB1.out.on hb); clear hb)))
          go_ret
          exact ret_below HE.out.symm HB2.out.2
        · have d8 : ((m : Int) != 8) = true := by simp; omega
          have HE := Lib.hid (show rightZ i = 1 by rw [HR.out]; rw [if_neg (by omega), if_neg (by omega)]; rw [if_pos (by omega)])
          go_enter Tryz.func142, Tryz.ntmps142
          go_wp2_with (first
            | (go_at_call 161; go_must (refine (HC.out _ HT1.out).mono ?_; rintro e w' ⟨rfl, rfl⟩))
            | (go_at_call 151; go_must (refine (HI.out _ HT1.out).mono ?_; rintro e w1 ⟨rfl, hb⟩; unfold infV; have HB1 := Lib.hid (HB.out.on hb); have c1 := HB1.out.c0; have c2 := HB1.out.c1; have c3 := HB1.out.c2; have c4 := HB1.out.c3; clear hb))
            | (go_at_call 162; go_must (refine (HN.out _).mono ?_; rintro e w2 ⟨rfl, hb⟩; have HB2 := Lib.hid (HB1.out.on hb); clear hb)))
          go_ret
          exact ret_below HE.out.symm HB1.out.2
  · have HE := Lib.hid (show rightZ i = k by unfold rightZ; rw [← hk, if_pos k0])
    have dk : ((k : Int) != 0) = true := by simp; omega
    clear hk
    go_enter Tryz.func142, Tryz.ntmps142
    go_wp2_with (go_at_call 161; go_must (refine (HC.out _ HT1.out).mono ?_; rintro e w' ⟨rfl, rfl⟩))
    go_ret
    exact ret_below HE.out.symm HB.out.2
end Go.Proofs.YtebgmfjgapmpfaaGreatDoor

/- wire.Size, wire.Indices, immediates: the bytes behind an opcode. (By gen/genPutl.py.) -/
namespace Go.Proofs.YtebgmfjgapmpfaaGreatDoor
open Go.RowKit
set_option linter.unusedVariables false
set_option maxRecDepth 100000

/-- The low 32 bits, the low 64 bits, with their sign. -/
def s32 (a : Int) : Int := (a + 2147483648) % 4294967296 - 2147483648
def s64 (a : Int) : Int := (a + 9223372036854775808) % 18446744073709551616 - 9223372036854775808
/-- How many labels there are, and these. -/
noncomputable def labsL (l : List Int) : List UInt8 := l.flatMap lebL
noncomputable def labL (l : List Int) : List UInt8 := lebL l.length ++ labsL l
noncomputable def immB (m : Nat) (i : I) : List UInt8 :=
  if m = 0 then [] else if m = 1 then [UInt8.ofNat i.a.toNat] else if m = 3 then labL i.l ++ lebL i.a else if m = 5 then lebL i.a ++ [0]
  else if m = 8 then lebL i.a ++ lebL i.b else if m = 9 then [0] else if m = 10 then sebL (s32 i.a) else if m = 11 then sebL (s64 i.a) else lebL i.a
/-- An instruction's bytes. -/
noncomputable def immL (i : I) : List UInt8 := immB (immR i.n) i
noncomputable def putL (i : I) : List UInt8 := i.op :: immL i

theorem labsL_len : ∀ l : List Int, (∀ c ∈ l, 0 ≤ c ∧ c ≤ 4294967295) → (labsL l).length ≤ l.length * 10
  | [], _ => by simp [labsL]
  | c :: l, h => by
    have h1 := labsL_len l (fun d hd => h d (List.mem_cons_of_mem _ hd))
    have h2 := lebL_len c (by have := h c (by simp); omega)
    unfold labsL at h1 ⊢
    rw [List.flatMap_cons, List.length_append, List.length_cons]
    omega
theorem labsL_snoc {l : List Int} {k : Nat} {c : Int} (h : l[k]? = some c) : labsL (l.take (k + 1)) = labsL (l.take k) ++ lebL c := by
  unfold labsL
  rw [take_snoc h, List.flatMap_append]
  simp
theorem labsL_take_len (l : List Int) (h : ∀ c ∈ l, 0 ≤ c ∧ c ≤ 4294967295) (k : Nat) (hl : l.length ≤ 10000) : (labsL (l.take k)).length ≤ 100000 := by
  have h1 := labsL_len (l.take k) (fun c hc => h c (List.mem_of_mem_take hc))
  have h2 : (l.take k).length ≤ l.length := by rw [List.length_take]; omega
  omega
theorem cells32_get {l : List Int} {i : Nat} {c : Int} (h : l[i]? = some c) : (cells32 l)[i]? = some (.int .u32 c) := by simp [cells32, h]

theorem size_w (n : Nat) (w : World) (hn : n ≤ 1000000) : Calls Tryz.prog 99 #[.int .i64 n] w (BytesL (lebL n) w) := by
  have HU := Lib.hid (fun w => uintB (n : Int) w (by omega) (by omega))
  have wn : IntKind.u64.wrap (n : Int) = n := by simp [IntKind.wrap, IntKind.bits, IntKind.signed]; omega
  generalize lebL (n : Int) = y at *
  go_enter Tryz.func99, Tryz.ntmps99
  go_wp2_with (go_at_call 134; go_must ((with_reducible refine (HU.out _).mono ?_); intro e w1 h; obtain ⟨v, rfl, hr, hb⟩ := h; have HR := Lib.hid hr; have HB := Lib.hid hb; clear hr hb))
  go_ret
  exact ⟨_, rfl, HR.out, HB.out⟩
theorem index_l (x : Int) (w : World) (h0 : 0 ≤ x) (h1 : x ≤ 4294967295) : Calls Tryz.prog 110 #[.int .u32 x] w (Leb (lebL x) w) := by
  have wd : IntKind.u64.wrap x = x := by simp [IntKind.wrap, IntKind.bits, IntKind.signed]; omega
  have U2 := Lib.hid (uintL x w h0 (by omega))
  generalize lebL x = y at *
  go_enter Tryz.func110, Tryz.ntmps110
  go_wp2_with (go_at_call 134; go_must ((with_reducible refine U2.out.mono ?_); intro e w2 h; obtain ⟨A2, k2, rfl, hl2, hb2⟩ := h; have HL2 := Lib.hid hl2; have HB2 := Lib.hid hb2; clear hl2 hb2))
  go_ret
  exact ⟨A2, k2, rfl, HL2.out, HB2.out⟩
theorem cfIdx (a : Array Value) (w : World) : (callFunc 110 a).run Tryz.prog w = .ok (.enter 110 a) w := by kernel_rfl
set_option maxHeartbeats 800000 in
theorem items32_any {w : World} {A : Option Addr} {c : Nat} {l : List Int} (hl : Lies w w.heap.size A (cells32 l)) (h10 : l.length ≤ 10000) (hc : ∀ c ∈ l, 0 ≤ c ∧ c ≤ 4294967295) :
    Calls Tryz.prog 136 #[.slice A l.length c, .func (.func 110) #[] #[]] w (BytesL (labL l) w) := by
  have U1 := Lib.hid (size_w l.length w (by omega))
  have m1 := lebL_len (l.length : Int) (by omega)
  have hlab : labL l = lebL l.length ++ labsL l := rfl
  obtain ⟨n, hn⟩ : ∃ n, n = l.length := ⟨_, rfl⟩
  rw [← hn] at U1 m1 hlab h10 ⊢
  generalize lebL (n : Int) = x at *
  have HL := Lib.hid hl
  have HC := Lib.hid hc
  have HN := Lib.hid hn
  have HLAB := Lib.hid hlab
  clear hl hn hlab hc
  have hcf := cfIdx
  go_enter Tryz.func136, Tryz.ntmps136
  go_wp2_with (go_at_call 99; go_must ((with_reducible refine U1.out.mono ?_); intro e w1 h; obtain ⟨v1, rfl, hr1, hb1⟩ := h; have HR1 := Lib.hid hr1; have HB1 := Lib.hid hb1; clear hr1 hb1))
  go_loopw [5, 13] (fun v i wr => ∃ k : Nat, k ≤ n ∧ i = .int .i64 k ∧ Row wr w.heap.size v (x ++ labsL (l.take k)) ∧ Below w.heap.size w wr) (fun _ i _ => n - (intOf i).toNat)
  case atStart => exact ⟨0, Nat.zero_le _, rfl, by simpa [labsL] using HR1.out, HB1.out⟩
  case round =>
    obtain ⟨k, hk, rfl, hr, hb⟩ := hrel
    have hz := hb.size
    by_cases hlt : k < n
    · obtain ⟨d, hd⟩ : ∃ d, l[k]? = some d := ⟨_, List.getElem?_eq_getElem (by rw [← HN.out]; exact hlt)⟩
      obtain ⟨b, off, rfl, hbl, hcell⟩ := HL.out k _ (cells32_get hd)
      have hcell2 := (hb.cell (p := ⟨b, off + k, none⟩) hbl).trans hcell
      have hdb := HC.out d (List.mem_of_getElem? hd)
      have U2 := Lib.hid (fun W => index_l d W hdb.1 hdb.2)
      have m2 := lebL_len d (by omega)
      have HS := Lib.hid (labsL_snoc hd)
      have hlen : (x ++ labsL (l.take k)).length ≤ 200000 := by rw [List.length_append]; have := labsL_take_len l HC.out k (by rw [← HN.out]; exact h10); omega
      have HR := Lib.hid hr
      have HB := Lib.hid hb
      obtain ⟨y, hy⟩ : ∃ y, y = lebL d := ⟨_, rfl⟩
      rw [← hy] at U2 m2 HS
      clear hr hb hcell hd hy
      go_wp2_with (first
        | (at_builtin; (refine row_lies rfl _ _ rfl w.heap.size _ _ rfl (HR.out.later HB2.out) _ _ _ _ y rfl rfl HL2.out (by omega) (by omega) (Nat.le_trans hz HB2.out.size) ?_; intro v3 w3 hr3 hb3; have HR3 := Lib.hid hr3; have HB3 := Lib.hid hb3; clear hr3 hb3))
        | (go_at_call 110; go_must ((with_reducible refine (U2.out _).mono ?_); intro e w2 h; obtain ⟨A2, k2, rfl, hl2, hb2⟩ := h; have HL2 := Lib.hid hl2; have HB2 := Lib.hid hb2; clear hl2 hb2)))
      go_roundw
      case rel => exact ⟨k + 1, by omega, by go_num, by rw [HS.out, ← List.append_assoc]; exact HR3.out, (HB.out.trans (HB2.out.mono hz)).trans HB3.out⟩
      case measure => simp [intOf]; omega
    · obtain rfl : k = n := by omega
      have HR := Lib.hid hr
      have HB := Lib.hid hb
      clear hr hb
      go_wp2
      go_ret
      exact ⟨_, rfl, by rw [HLAB.out]; have := HR.out; rw [List.take_of_length_le (by rw [← HN.out]; exact Nat.le_refl _)] at this; exact this, HB.out⟩
theorem labels_any {w : World} {A : Option Addr} {c : Nat} {l : List Int} (hl : Lies w w.heap.size A (cells32 l)) (h10 : l.length ≤ 10000) (hc : ∀ c ∈ l, 0 ≤ c ∧ c ≤ 4294967295) :
    Calls Tryz.prog 102 #[.slice A l.length c] w (BytesL (labL l) w) := by
  have HI := Lib.hid (items32_any (c := c) hl h10 hc)
  clear hl hc
  go_enter Tryz.func102, Tryz.ntmps102
  go_wp2_with (go_at_call 136; go_must ((with_reducible refine HI.out.mono ?_); intro e w1 h; obtain ⟨v, rfl, hr, hb⟩ := h; have HR := Lib.hid hr; have HB := Lib.hid hb; clear hr hb))
  go_ret
  exact ⟨_, rfl, HR.out, HB.out⟩

/-- What one that may be has. -/
theorem right_zero {i : I} (h : rightZ i = 0) : checkR i.n = 0 ∧ (0 < i.l.length → immR i.n = 3) ∧ i.l.length ≤ 10000 ∧ (i.b ≠ 0 → immR i.n = 8) ∧ numsZ (immR i.n) i.a i.b = 0 := by
  unfold rightZ at h
  by_cases h1 : checkR i.n ≠ 0
  · rw [if_pos h1] at h; omega
  · rw [if_neg h1] at h
    by_cases h2 : 0 < i.l.length ∧ immR i.n ≠ 3
    · rw [if_pos h2] at h; cases h
    · rw [if_neg h2] at h
      by_cases h3 : 10000 < i.l.length
      · rw [if_pos h3] at h; cases h
      · rw [if_neg h3] at h
        by_cases h4 : i.b ≠ 0 ∧ immR i.n ≠ 8
        · rw [if_pos h4] at h; cases h
        · rw [if_neg h4] at h
          exact ⟨by omega, by omega, by omega, by omega, h⟩
theorem block_zero {a : Int} (h : blockZ a = 0) (h0 : 0 ≤ a) : a ≤ 255 := by
  unfold blockZ at h
  by_cases h1 : a = 64
  · omega
  · rw [if_neg h1] at h
    by_cases h2 : 255 < a
    · rw [if_pos h2] at h; cases h
    · omega
theorem nums_zero {m : Nat} {a b : Int} (h : numsZ m a b = 0) (h0 : 0 ≤ a) : (m = 1 → a ≤ 255 ∧ blockZ a = 0) ∧ ((m = 0 ∨ m = 9) → a = 0) ∧ ((m ≠ 1 ∧ m ≠ 0 ∧ m ≠ 9 ∧ m ≠ 11) → a ≤ 4294967295 ∧ b ≤ 4294967295) := by
  unfold numsZ at h
  by_cases h1 : m = 1
  · rw [if_pos h1] at h
    exact ⟨fun _ => ⟨block_zero h h0, h⟩, by omega, by omega⟩
  · rw [if_neg h1] at h
    by_cases h2 : m = 0 ∨ m = 9
    · rw [if_pos h2] at h
      refine ⟨by omega, fun _ => ?_, by omega⟩
      by_cases h3 : a = 0
      · exact h3
      · rw [if_neg h3] at h; cases h
    · rw [if_neg h2] at h
      by_cases h3 : m = 11
      · exact ⟨by omega, by omega, by omega⟩
      · rw [if_neg h3] at h
        refine ⟨by omega, by omega, fun _ => ?_⟩
        by_cases h4 : a ≤ 4294967295 ∧ b ≤ 4294967295
        · exact h4
        · rw [if_neg h4] at h; cases h
theorem box_bytes {w W : World} {i : I} {A : Option Addr} {c : Nat} (h : BoxI w W i A c) {l : List UInt8} {e : Ending} {w' : World} (hb : BytesL l W e w') : BytesL l w e w' := by
  obtain ⟨v, rfl, h1, h2⟩ := hb
  exact ⟨v, rfl, h1.mono h.2.size, h.2.trans (h2.mono h.2.size)⟩
theorem u8_of {a : Int} (h0 : 0 ≤ a) (h1 : a ≤ 255) : ((UInt8.ofNat a.toNat).toNat : Int) = a := by
  rw [UInt8.toNat_ofNat']
  omega
theorem BoxI.bel {w W : World} {i : I} {A : Option Addr} {c : Nat} (h : BoxI w W i A c) : Below w.heap.size w W := h.2
theorem wp_lies {w : World} {o : Oper} {a : Act} {K : Act → World → Prop} {Q : Exit → Act → World → Prop} (hgd : o.guard = none) (s x : Operand)
    (ho : o.op = .call { callee := .builtin .append, args := #[s, x], argTypes := #[22, 22] })
    (B : Nat) (v : Value) (xs : List UInt8) (hs : a.eval s = v) (hr : Row w B v xs)
    (A : Option Addr) (m c B' : Nat) (news : List UInt8) (hx : a.eval x = .slice A m c) (hl : news.length = m) (hn : Lies w B' A (cells (nums news)))
    (hm : 0 < m) (hb : xs.length + news.length ≤ 1000000) (hB : B ≤ w.heap.size)
    (h : ∀ v' w', Row w' B v' (xs ++ news) → Below B w w' → K (a.put o.dst v') w') : Oper.wp Tryz.prog o a w K Q := by
  have hw : Region.wanted o (yielded #[] a.tmps) = true := by simp [Region.wanted, hgd]
  have := step_lies (ops := #[]) (Q := Q) (E := True) hgd s x ho B v xs hs hr A m c B' news hx hl hn hm hb hB h
  rwa [if_pos hw] at this
/-- What is held while numbers are written. -/
def Six (w : World) (i : I) (A : Option Addr) (c : Nat) (W : World) : Prop := BoxI w W i A c ∧ W.cell? ⟨w.heap.size, 1, none⟩ = some (.int .u64 i.a) ∧ W.cell? ⟨w.heap.size, 2, none⟩ = some (.int .u64 i.b) ∧ W.cell? ⟨w.heap.size, 3, none⟩ = some (.slice A i.l.length c)
theorem Six.of {w W : World} {i : I} {A : Option Addr} {c : Nat} (h : BoxI w W i A c) : Six w i A c W := ⟨h, h.c1, h.c2, h.c3⟩
theorem Six.on {w W W' : World} {i : I} {A : Option Addr} {c : Nat} (h : Six w i A c W) (hb : Below W.heap.size W W') : Six w i A c W' := .of (h.1.on hb)
theorem Six.past {w W W' : World} {i : I} {A : Option Addr} {c : Nat} (h : Six w i A c W) (hb : Below (w.heap.size + 1) W W') : Six w i A c W' :=
  .of ⟨(hb.block _ (Nat.lt_succ_self _)).trans h.1.1, h.1.2.trans (hb.mono (Nat.le_succ _))⟩

set_option maxHeartbeats 2000000 in
theorem imm_bytes (i : I) (A : Option Addr) (c : Nat) (w : World) (h : i.Ok) (hT : Tabs w) (hr : rightZ i = 0) (hl : Lies w w.heap.size A (cells32 i.l)) :
    Calls Tryz.prog 143 #[insV i A c] w (BytesL (immL i) w) := by
  have hn := i.n_le
  obtain ⟨a0, a1, b0, b1, hl0⟩ := h
  obtain ⟨hc0, _, h10, _, hz0⟩ := right_zero hr
  obtain ⟨hz1, hz2, hz3⟩ := nums_zero hz0 a0
  have HL0 := Lib.hid hl0
  have HB := Lib.hid (BoxI.start w i A c)
  have HT1 := Lib.hid (hT.below HB.out.2)
  have HLA := Lib.hid (fun W (hb : Below w.heap.size w W) => labels_any (w := W) (c := c) ((hl.below hb (Nat.le_refl _)).more hb.size) h10 hl0)
  obtain ⟨m, hm⟩ : ∃ m, m = immR i.n := ⟨_, rfl⟩
  obtain ⟨inf, hinf⟩ : ∃ inf, inf = infR i.n := ⟨_, rfl⟩
  have him : inf.imm = m := by rw [hinf, hm]; exact (imm_same hn hc0).1
  have HI : Hid (∀ W, Tabs W → Calls Tryz.prog 151 #[.int .u8 i.op.toNat] W fun e w' => e = .returned (infV inf) ∧ Below W.heap.size W w') := fun W hW => by rw [hinf]; exact of_any i.n W hW hn
  have hfield := fun z wx => field_imm (S inf.name) (S inf.ps) (S inf.rs) z inf.free wx
  have HIM := Lib.hid (show immL i = immB m i by unfold immL; rw [hm])
  rw [← hm] at hz1 hz2 hz3
  have HZ1 := Lib.hid hz1
  have HZ2 := Lib.hid hz2
  have HZ3 := Lib.hid hz3
  clear hT hl hr hc0 hz0 hinf hm hz1 hz2 hz3 hl0
  by_cases m0 : m = 0
  · subst m0
    have HE := Lib.hid (show immL i = [] by rw [HIM.out]; unfold immB; rw [if_pos rfl])
    go_enter Tryz.func143, Tryz.ntmps143
    go_wp2_with (first
      | (go_at_call 151; go_must ((with_reducible refine (HI.out _ HT1.out).mono ?_); rintro e w1 ⟨rfl, hb⟩; unfold infV; have HB1 := Lib.hid (HB.out.on hb); have c1 := HB1.out.c1; have c2 := HB1.out.c2; have c3 := HB1.out.c3; clear hb)))
    go_ret
    exact ⟨_, rfl, by rw [HE.out]; exact Row.nil _ _, HB1.out.2⟩
  have d0 : ((m : Int) == 0) = false := by simp; omega
  by_cases m1 : m = 1
  · subst m1
    have HE := Lib.hid (show immL i = [UInt8.ofNat i.a.toNat] by rw [HIM.out]; unfold immB; rw [if_neg (by omega), if_pos rfl])
    have ha := (HZ1.out rfl).1
    have hw : IntKind.u8.wrap i.a = i.a := by simp [IntKind.wrap, IntKind.bits, IntKind.signed]; omega
    go_enter Tryz.func143, Tryz.ntmps143
    go_wp2_with (first
      | (go_at_call 151; go_must ((with_reducible refine (HI.out _ HT1.out).mono ?_); rintro e w1 ⟨rfl, hb⟩; unfold infV; have HB1 := Lib.hid (HB.out.on hb); have c1 := HB1.out.c1; have c2 := HB1.out.c2; have c3 := HB1.out.c3; clear hb)))
    go_ret
    refine box_bytes HB1.out ⟨_, rfl, ?_, (Below.refl _ _).alloc (Nat.le_refl _) _⟩
    have hm := Row.made w1 [UInt8.ofNat i.a.toNat] w1.heap.size w1.heap.size rfl (Nat.le_refl _) (by simp)
    have he : nums [UInt8.ofNat i.a.toNat] = [i.a] := by unfold nums; rw [List.map_cons, u8_of a0 ha]; rfl
    rw [he] at hm
    rw [HE.out]
    exact hm
  have d1 : ((m : Int) == 1) = false := by simp; omega
  by_cases m3 : m = 3
  · subst m3
    have HE := Lib.hid (show immL i = labL i.l ++ lebL i.a by rw [HIM.out]; unfold immB; rw [if_neg (by omega), if_neg (by omega), if_pos rfl])
    have m2 := lebL_len i.a (by omega)
    have m1 : (labL i.l).length ≤ 200000 := by unfold labL; rw [List.length_append]; have := lebL_len (i.l.length : Int) (by omega); have := labsL_take_len i.l HL0.out i.l.length h10; rw [List.take_length] at this; omega
    have U2 := Lib.hid (fun W => uintL i.a W a0 a1)
    obtain ⟨x, hx⟩ : ∃ x, x = labL i.l := ⟨_, rfl⟩
    obtain ⟨y, hy⟩ : ∃ y, y = lebL i.a := ⟨_, rfl⟩
    rw [← hx] at HE m1 HLA
    rw [← hy] at HE m2 U2
    clear hx hy
    go_enter Tryz.func143, Tryz.ntmps143
    go_wp2_with (first
      | (go_at_call 151; go_must ((with_reducible refine (HI.out _ HT1.out).mono ?_); rintro e w1 ⟨rfl, hb⟩; unfold infV; have HB1 := Lib.hid (HB.out.on hb); have c1 := HB1.out.c1; have c2 := HB1.out.c2; have c3 := HB1.out.c3; clear hb)))
    refine wp_region_noPanic ?_
    refine wp_region_held_drew (S := fun W => BoxI w W i A c ∧ W.cell? ⟨w.heap.size, 1, none⟩ = some (.int .u64 i.a) ∧ W.cell? ⟨w.heap.size, 2, none⟩ = some (.int .u64 i.b) ∧ W.cell? ⟨w.heap.size, 3, none⟩ = some (.slice A i.l.length c)) (by kernel_rfl) (Six.of (HB1.out.drewN 1)) (fun hHeld => ?_)
    (refine heldTake (i := 0) (oi := { dst := some 17, op := Op.fieldAddr 44 (Operand.tmp 1) 3, type := 0, pos := "instr.go:90", after := #[], guard := none }) (v := ?_) rfl (by kernel_rfl) (by kernel_rfl) (by kernel_rfl) (by assumption) ?_ ?_; rotate_left; focus (refine .inl ⟨by kernel_rfl, ?_⟩; intro w hSw; (try dsimp only at hSw); go_simp; (try with_reducible rfl)); (try simp only [Act.put, List.setIfInBounds_toArray, List.set_cons_zero, List.set_cons_succ]))
    (refine heldTake (i := 1) (oi := { dst := some 18, op := Op.load 42 (Operand.tmp 17), type := 42, pos := "instr.go:90", after := #[{ on := 0, ground := Ground.data }], guard := none }) (v := ?_) rfl (by kernel_rfl) (by kernel_rfl) (by kernel_rfl) (by assumption) ?_ ?_; rotate_left; focus (refine .inl ⟨by kernel_rfl, ?_⟩; intro w hSw; (try dsimp only at hSw); go_simp; (try with_reducible rfl)); (try simp only [Act.put, List.setIfInBounds_toArray, List.set_cons_zero, List.set_cons_succ]))
    (refine heldTake (i := 3) (oi := { dst := some 20, op := Op.fieldAddr 44 (Operand.tmp 1) 1, type := 0, pos := "instr.go:90", after := #[], guard := none }) (v := ?_) rfl (by kernel_rfl) (by kernel_rfl) (by kernel_rfl) (by assumption) ?_ ?_; rotate_left; focus (refine .inl ⟨by kernel_rfl, ?_⟩; intro w hSw; (try dsimp only at hSw); go_simp; (try with_reducible rfl)); (try simp only [Act.put, List.setIfInBounds_toArray, List.set_cons_zero, List.set_cons_succ]))
    (refine heldTake (i := 4) (oi := { dst := some 21, op := Op.load 41 (Operand.tmp 20), type := 41, pos := "instr.go:90", after := #[{ on := 3, ground := Ground.data }], guard := none }) (v := ?_) rfl (by kernel_rfl) (by kernel_rfl) (by kernel_rfl) (by assumption) ?_ ?_; rotate_left; focus (refine .inl ⟨by kernel_rfl, ?_⟩; intro w hSw; (try dsimp only at hSw); go_simp; (try with_reducible rfl)); (try simp only [Act.put, List.setIfInBounds_toArray, List.set_cons_zero, List.set_cons_succ]))
    refine wpAnyH_ready (rs := [2]) (by kernel_rfl) (by simp) ?_
    refine AllReadyH.cons (o := { dst := some 19, op := Op.call { callee := Callee.value (Operand.func 102), args := #[Operand.tmp 18], argTypes := #[42] }, type := 22, pos := "instr.go:90", after := #[{ on := 1, ground := Ground.data }], guard := none }) rfl (fun K hK => ?_) AllReadyH.nil
    go_simp
    (go_at_call 102; (with_reducible refine (HLA.out _ (BoxI.bel hHeld.1)).mono ?_); intro e w2 h; obtain ⟨v2, rfl, hr2, hb2⟩ := h; have HR2 := Lib.hid hr2; have HB2 := Lib.hid hb2; have hk2 := Six.on hHeld hb2; have hz1 := BoxI.lt (And.left hHeld); have hs2 := hb2.size; clear hr2 hb2)
    refine hK.out _ _ hk2 (fun hHeld2 => ?_)
    clear hK K hHeld
    (try simp only [Act.put, List.setIfInBounds_toArray, List.set_cons_zero, List.set_cons_succ])
    refine wpAnyH_ready (rs := [5]) (by kernel_rfl) (by simp) ?_
    refine AllReadyH.cons (o := { dst := some 22, op := Op.call { callee := Callee.value (Operand.func 134), args := #[Operand.tmp 21], argTypes := #[41] }, type := 22, pos := "instr.go:90", after := #[{ on := 4, ground := Ground.data }, { on := 2, ground := Ground.chain }], guard := none }) rfl (fun K hK => ?_) AllReadyH.nil
    go_simp
    (go_at_call 134; (with_reducible refine (U2.out _).mono ?_); intro e w3 h; obtain ⟨A3, k3, rfl, hl3, hb3⟩ := h; have HL3 := Lib.hid hl3; have HB3 := Lib.hid hb3; have hk3 := Six.on hHeld2 hb3; have hz3 := hb3.size; clear hl3 hb3)
    refine hK.out _ _ hk3 (fun hHeld5 => ?_)
    clear hK K hHeld2
    (try simp only [Act.put, List.setIfInBounds_toArray, List.set_cons_zero, List.set_cons_succ])
    refine wpAnyH_ready (rs := [6]) (by kernel_rfl) (by simp) ?_
    refine AllReadyH.cons (o := { dst := some 23, op := Op.call { callee := Callee.builtin Builtin.append, args := #[Operand.tmp 19, Operand.tmp 22], argTypes := #[22, 22] }, type := 22, pos := "instr.go:90", after := #[{ on := 2, ground := Ground.data }, { on := 5, ground := Ground.data }, { on := 5, ground := Ground.chain }], guard := none }) rfl (fun K hK => ?_) AllReadyH.nil
    (refine wp_lies rfl _ _ rfl _ _ x rfl (HR2.out.later HB3.out) _ _ _ _ y rfl rfl HL3.out (by omega) (by omega) (Nat.le_trans hs2 hz3) ?_; intro v4 w4 hr4 hb4; have HR4 := Lib.hid hr4; have HB4 := Lib.hid hb4; have hk4 := Six.past hHeld5 (hb4.mono hz1); clear hr4 hb4)
    refine hK.out _ _ hk4 (fun hHeld6 => ?_)
    clear hK K hHeld5
    (try simp only [Act.put, List.setIfInBounds_toArray, List.set_cons_zero, List.set_cons_succ])
    (refine heldTake (i := 7) (oi := { dst := some 2, op := Op.assign (Operand.tmp 23), type := 22, pos := "instr.go:90", after := #[{ on := 6, ground := Ground.data }, { on := 6, ground := Ground.chain }, { on := 0, ground := Ground.phase }, { on := 1, ground := Ground.phase }, { on := 2, ground := Ground.phase }, { on := 3, ground := Ground.phase }, { on := 4, ground := Ground.phase }, { on := 5, ground := Ground.phase }, { on := 6, ground := Ground.phase }], guard := none }) (v := ?_) rfl (by kernel_rfl) (by kernel_rfl) (by kernel_rfl) (by assumption) ?_ ?_; rotate_left; focus (refine .inl ⟨by kernel_rfl, ?_⟩; intro w hSw; (try dsimp only at hSw); go_simp; (try with_reducible rfl)); (try simp only [Act.put, List.setIfInBounds_toArray, List.set_cons_zero, List.set_cons_succ]))
    refine wpAnyH_done (by kernel_rfl) ?_ _
    refine NoPanic.normal ?_
    have hLast := hHeld6
    clear hHeld6
    go_wp2
    go_ret
    exact ⟨_, rfl, by rw [HE.out]; exact HR4.out.mono (by omega), BoxI.bel hLast.1⟩
  have d3 : ((m : Int) == 3) = false := by simp; omega
  by_cases m5 : m = 5
  · subst m5
    have HE := Lib.hid (show immL i = lebL i.a ++ [0] by rw [HIM.out]; unfold immB; rw [if_neg (by omega), if_neg (by omega), if_neg (by omega), if_pos rfl])
    have m2 := lebL_len i.a (by omega)
    have U1 := Lib.hid (fun W => uintB i.a W a0 a1)
    obtain ⟨x, hx⟩ : ∃ x, x = lebL i.a := ⟨_, rfl⟩
    rw [← hx] at HE m2 U1
    clear hx
    go_enter Tryz.func143, Tryz.ntmps143
    go_wp2_with (first
      | (go_at_call 151; go_must ((with_reducible refine (HI.out _ HT1.out).mono ?_); rintro e w1 ⟨rfl, hb⟩; unfold infV; have HB1 := Lib.hid (HB.out.on hb); have c1 := HB1.out.c1; have c2 := HB1.out.c2; have c3 := HB1.out.c3; clear hb))
      | (at_builtin; (refine row_new rfl _ _ rfl w1.heap.size _ x rfl (HR2.out.alloc _) w2.heap.size 1 [0] rfl rfl (heap_alloc_new w2 _) (by omega) (by simp; omega) (by simp; omega) ?_; intro v3 w3 hr3 hb3; have HR3 := Lib.hid hr3; have HB3 := Lib.hid hb3; clear hr3 hb3))
      | (go_at_call 134; go_must ((with_reducible refine (U1.out _).mono ?_); intro e w2 h; obtain ⟨v2, rfl, hr2, hb2⟩ := h; have hz2 := hb2.size; have HR2 := Lib.hid hr2; have HB2 := Lib.hid hb2; clear hr2 hb2)))
    go_ret
    exact box_bytes HB1.out ⟨_, rfl, by rw [HE.out]; exact HR3.out, (HB2.out.alloc hz2 _).trans HB3.out⟩
  have d5 : ((m : Int) == 5) = false := by simp; omega
  by_cases m8 : m = 8
  · subst m8
    have HE := Lib.hid (show immL i = lebL i.a ++ lebL i.b by rw [HIM.out]; unfold immB; rw [if_neg (by omega), if_neg (by omega), if_neg (by omega), if_neg (by omega), if_pos rfl])
    have m2 := lebL_len i.b (by omega)
    have m1 : (lebL i.a).length ≤ 200000 := by have := lebL_len i.a (by omega); omega
    have U1 := Lib.hid (fun W => uintB i.a W a0 a1)
    have U2 := Lib.hid (fun W => uintL i.b W b0 b1)
    obtain ⟨x, hx⟩ : ∃ x, x = lebL i.a := ⟨_, rfl⟩
    obtain ⟨y, hy⟩ : ∃ y, y = lebL i.b := ⟨_, rfl⟩
    rw [← hx] at HE m1 U1
    rw [← hy] at HE m2 U2
    clear hx hy
    go_enter Tryz.func143, Tryz.ntmps143
    go_wp2_with (first
      | (go_at_call 151; go_must ((with_reducible refine (HI.out _ HT1.out).mono ?_); rintro e w1 ⟨rfl, hb⟩; unfold infV; have HB1 := Lib.hid (HB.out.on hb); have c1 := HB1.out.c1; have c2 := HB1.out.c2; have c3 := HB1.out.c3; clear hb)))
    refine wp_region_noPanic ?_
    refine wp_region_held_drew (S := fun W => BoxI w W i A c ∧ W.cell? ⟨w.heap.size, 1, none⟩ = some (.int .u64 i.a) ∧ W.cell? ⟨w.heap.size, 2, none⟩ = some (.int .u64 i.b) ∧ W.cell? ⟨w.heap.size, 3, none⟩ = some (.slice A i.l.length c)) (by kernel_rfl) (Six.of (HB1.out.drewN 1)) (fun hHeld => ?_)
    (refine heldTake (i := 0) (oi := { dst := some 33, op := Op.fieldAddr 44 (Operand.tmp 1) 1, type := 0, pos := "instr.go:94", after := #[], guard := none }) (v := ?_) rfl (by kernel_rfl) (by kernel_rfl) (by kernel_rfl) (by assumption) ?_ ?_; rotate_left; focus (refine .inl ⟨by kernel_rfl, ?_⟩; intro w hSw; (try dsimp only at hSw); go_simp; (try with_reducible rfl)); (try simp only [Act.put, List.setIfInBounds_toArray, List.set_cons_zero, List.set_cons_succ]))
    (refine heldTake (i := 1) (oi := { dst := some 34, op := Op.load 41 (Operand.tmp 33), type := 41, pos := "instr.go:94", after := #[{ on := 0, ground := Ground.data }], guard := none }) (v := ?_) rfl (by kernel_rfl) (by kernel_rfl) (by kernel_rfl) (by assumption) ?_ ?_; rotate_left; focus (refine .inl ⟨by kernel_rfl, ?_⟩; intro w hSw; (try dsimp only at hSw); go_simp; (try with_reducible rfl)); (try simp only [Act.put, List.setIfInBounds_toArray, List.set_cons_zero, List.set_cons_succ]))
    (refine heldTake (i := 3) (oi := { dst := some 36, op := Op.fieldAddr 44 (Operand.tmp 1) 2, type := 0, pos := "instr.go:94", after := #[], guard := none }) (v := ?_) rfl (by kernel_rfl) (by kernel_rfl) (by kernel_rfl) (by assumption) ?_ ?_; rotate_left; focus (refine .inl ⟨by kernel_rfl, ?_⟩; intro w hSw; (try dsimp only at hSw); go_simp; (try with_reducible rfl)); (try simp only [Act.put, List.setIfInBounds_toArray, List.set_cons_zero, List.set_cons_succ]))
    (refine heldTake (i := 4) (oi := { dst := some 37, op := Op.load 41 (Operand.tmp 36), type := 41, pos := "instr.go:94", after := #[{ on := 3, ground := Ground.data }], guard := none }) (v := ?_) rfl (by kernel_rfl) (by kernel_rfl) (by kernel_rfl) (by assumption) ?_ ?_; rotate_left; focus (refine .inl ⟨by kernel_rfl, ?_⟩; intro w hSw; (try dsimp only at hSw); go_simp; (try with_reducible rfl)); (try simp only [Act.put, List.setIfInBounds_toArray, List.set_cons_zero, List.set_cons_succ]))
    refine wpAnyH_ready (rs := [2]) (by kernel_rfl) (by simp) ?_
    refine AllReadyH.cons (o := { dst := some 35, op := Op.call { callee := Callee.value (Operand.func 134), args := #[Operand.tmp 34], argTypes := #[41] }, type := 22, pos := "instr.go:94", after := #[{ on := 1, ground := Ground.data }], guard := none }) rfl (fun K hK => ?_) AllReadyH.nil
    go_simp
    (go_at_call 134; (with_reducible refine (U1.out _).mono ?_); intro e w2 h; obtain ⟨v2, rfl, hr2, hb2⟩ := h; have HR2 := Lib.hid hr2; have HB2 := Lib.hid hb2; have hk2 := Six.on hHeld hb2; have hz1 := BoxI.lt (And.left hHeld); have hs2 := hb2.size; clear hr2 hb2)
    refine hK.out _ _ hk2 (fun hHeld2 => ?_)
    clear hK K hHeld
    (try simp only [Act.put, List.setIfInBounds_toArray, List.set_cons_zero, List.set_cons_succ])
    refine wpAnyH_ready (rs := [5]) (by kernel_rfl) (by simp) ?_
    refine AllReadyH.cons (o := { dst := some 38, op := Op.call { callee := Callee.value (Operand.func 134), args := #[Operand.tmp 37], argTypes := #[41] }, type := 22, pos := "instr.go:94", after := #[{ on := 4, ground := Ground.data }, { on := 2, ground := Ground.chain }], guard := none }) rfl (fun K hK => ?_) AllReadyH.nil
    go_simp
    (go_at_call 134; (with_reducible refine (U2.out _).mono ?_); intro e w3 h; obtain ⟨A3, k3, rfl, hl3, hb3⟩ := h; have HL3 := Lib.hid hl3; have HB3 := Lib.hid hb3; have hk3 := Six.on hHeld2 hb3; have hz3 := hb3.size; clear hl3 hb3)
    refine hK.out _ _ hk3 (fun hHeld5 => ?_)
    clear hK K hHeld2
    (try simp only [Act.put, List.setIfInBounds_toArray, List.set_cons_zero, List.set_cons_succ])
    refine wpAnyH_ready (rs := [6]) (by kernel_rfl) (by simp) ?_
    refine AllReadyH.cons (o := { dst := some 39, op := Op.call { callee := Callee.builtin Builtin.append, args := #[Operand.tmp 35, Operand.tmp 38], argTypes := #[22, 22] }, type := 22, pos := "instr.go:94", after := #[{ on := 2, ground := Ground.data }, { on := 5, ground := Ground.data }, { on := 5, ground := Ground.chain }], guard := none }) rfl (fun K hK => ?_) AllReadyH.nil
    (refine wp_lies rfl _ _ rfl _ _ x rfl (HR2.out.later HB3.out) _ _ _ _ y rfl rfl HL3.out (by omega) (by omega) (Nat.le_trans hs2 hz3) ?_; intro v4 w4 hr4 hb4; have HR4 := Lib.hid hr4; have HB4 := Lib.hid hb4; have hk4 := Six.past hHeld5 (hb4.mono hz1); clear hr4 hb4)
    refine hK.out _ _ hk4 (fun hHeld6 => ?_)
    clear hK K hHeld5
    (try simp only [Act.put, List.setIfInBounds_toArray, List.set_cons_zero, List.set_cons_succ])
    (refine heldTake (i := 7) (oi := { dst := some 2, op := Op.assign (Operand.tmp 39), type := 22, pos := "instr.go:94", after := #[{ on := 6, ground := Ground.data }, { on := 6, ground := Ground.chain }, { on := 0, ground := Ground.phase }, { on := 1, ground := Ground.phase }, { on := 2, ground := Ground.phase }, { on := 3, ground := Ground.phase }, { on := 4, ground := Ground.phase }, { on := 5, ground := Ground.phase }, { on := 6, ground := Ground.phase }], guard := none }) (v := ?_) rfl (by kernel_rfl) (by kernel_rfl) (by kernel_rfl) (by assumption) ?_ ?_; rotate_left; focus (refine .inl ⟨by kernel_rfl, ?_⟩; intro w hSw; (try dsimp only at hSw); go_simp; (try with_reducible rfl)); (try simp only [Act.put, List.setIfInBounds_toArray, List.set_cons_zero, List.set_cons_succ]))
    refine wpAnyH_done (by kernel_rfl) ?_ _
    refine NoPanic.normal ?_
    have hLast := hHeld6
    clear hHeld6
    go_wp2
    go_ret
    exact ⟨_, rfl, by rw [HE.out]; exact HR4.out.mono (by omega), BoxI.bel hLast.1⟩
  have d8 : ((m : Int) == 8) = false := by simp; omega
  by_cases m9 : m = 9
  · subst m9
    have HE := Lib.hid (show immL i = [0] by rw [HIM.out]; unfold immB; rw [if_neg (by omega), if_neg (by omega), if_neg (by omega), if_neg (by omega), if_neg (by omega), if_pos rfl])
    go_enter Tryz.func143, Tryz.ntmps143
    go_wp2_with (first
      | (go_at_call 151; go_must ((with_reducible refine (HI.out _ HT1.out).mono ?_); rintro e w1 ⟨rfl, hb⟩; unfold infV; have HB1 := Lib.hid (HB.out.on hb); have c1 := HB1.out.c1; have c2 := HB1.out.c2; have c3 := HB1.out.c3; clear hb)))
    go_ret
    refine box_bytes HB1.out ⟨_, rfl, ?_, (Below.refl _ _).alloc (Nat.le_refl _) _⟩
    rw [HE.out]
    exact Row.made w1 [0] w1.heap.size w1.heap.size rfl (Nat.le_refl _) (by simp)
  have d9 : ((m : Int) == 9) = false := by simp; omega
  by_cases m10 : m = 10
  · subst m10
    have HE := Lib.hid (show immL i = sebL (s32 i.a) by rw [HIM.out]; unfold immB; rw [if_neg (by omega), if_neg (by omega), if_neg (by omega), if_neg (by omega), if_neg (by omega), if_neg (by omega), if_pos rfl])
    have ha := (HZ3.out (by omega)).1
    have hw : wrap64 (wrap32 i.a) = s32 i.a := by unfold s32 wrap64 wrap32; omega
    have hs : -9223372036854775808 ≤ s32 i.a ∧ s32 i.a ≤ 9223372036854775807 := by unfold s32; omega
    have U1 := Lib.hid (fun W => intB (s32 i.a) W hs.1 hs.2)
    generalize s32 i.a = z at *
    go_enter Tryz.func143, Tryz.ntmps143
    go_wp2_with (first
      | (go_at_call 151; go_must ((with_reducible refine (HI.out _ HT1.out).mono ?_); rintro e w1 ⟨rfl, hb⟩; unfold infV; have HB1 := Lib.hid (HB.out.on hb); have c1 := HB1.out.c1; have c2 := HB1.out.c2; have c3 := HB1.out.c3; clear hb))
      | (go_at_call 163; go_must ((with_reducible refine (U1.out _).mono ?_); intro e w2 h; obtain ⟨v2, rfl, hr2, hb2⟩ := h; have HR2 := Lib.hid hr2; have HB2 := Lib.hid hb2; clear hr2 hb2)))
    go_ret
    exact box_bytes HB1.out ⟨_, rfl, by rw [HE.out]; exact HR2.out, HB2.out⟩
  have d10 : ((m : Int) == 10) = false := by simp; omega
  by_cases m11 : m = 11
  · subst m11
    have HE := Lib.hid (show immL i = sebL (s64 i.a) by rw [HIM.out]; unfold immB; rw [if_neg (by omega), if_neg (by omega), if_neg (by omega), if_neg (by omega), if_neg (by omega), if_neg (by omega), if_neg (by omega), if_pos rfl])
    have hw : wrap64 i.a = s64 i.a := by unfold s64 wrap64; omega
    have hs : -9223372036854775808 ≤ s64 i.a ∧ s64 i.a ≤ 9223372036854775807 := by unfold s64; omega
    have U1 := Lib.hid (fun W => intB (s64 i.a) W hs.1 hs.2)
    generalize s64 i.a = z at *
    go_enter Tryz.func143, Tryz.ntmps143
    go_wp2_with (first
      | (go_at_call 151; go_must ((with_reducible refine (HI.out _ HT1.out).mono ?_); rintro e w1 ⟨rfl, hb⟩; unfold infV; have HB1 := Lib.hid (HB.out.on hb); have c1 := HB1.out.c1; have c2 := HB1.out.c2; have c3 := HB1.out.c3; clear hb))
      | (go_at_call 163; go_must ((with_reducible refine (U1.out _).mono ?_); intro e w2 h; obtain ⟨v2, rfl, hr2, hb2⟩ := h; have HR2 := Lib.hid hr2; have HB2 := Lib.hid hb2; clear hr2 hb2)))
    go_ret
    exact box_bytes HB1.out ⟨_, rfl, by rw [HE.out]; exact HR2.out, HB2.out⟩
  have d11 : ((m : Int) == 11) = false := by simp; omega
  have HE := Lib.hid (show immL i = lebL i.a by rw [HIM.out]; unfold immB; rw [if_neg m0, if_neg m1, if_neg m3, if_neg m5, if_neg m8, if_neg m9, if_neg m10, if_neg m11])
  have U1 := Lib.hid (fun W => uintB i.a W a0 a1)
  clear HIM
  go_enter Tryz.func143, Tryz.ntmps143
  go_wp2_with (first
    | (go_at_call 151; go_must ((with_reducible refine (HI.out _ HT1.out).mono ?_); rintro e w1 ⟨rfl, hb⟩; unfold infV; have HB1 := Lib.hid (HB.out.on hb); have c1 := HB1.out.c1; have c2 := HB1.out.c2; have c3 := HB1.out.c3; clear hb))
    | (go_at_call 134; go_must ((with_reducible refine (U1.out _).mono ?_); intro e w2 h; obtain ⟨v2, rfl, hr2, hb2⟩ := h; have HR2 := Lib.hid hr2; have HB2 := Lib.hid hb2; clear hr2 hb2)))
  go_ret
  exact box_bytes HB1.out ⟨_, rfl, by rw [HE.out]; exact HR2.out, HB2.out⟩
end Go.Proofs.YtebgmfjgapmpfaaGreatDoor
