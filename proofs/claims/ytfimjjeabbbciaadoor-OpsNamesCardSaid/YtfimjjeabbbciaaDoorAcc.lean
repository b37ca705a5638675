/- AccessOf, immOf, Opens, accessTypes, typesOf, float, Check, Of. -/
import Derived.Test.YtfimjjeabbbciaaDoorTabs
import Derived.RegionTactic
import Derived.ChangeAlike
namespace Go.Proofs.YtfimjjeabbbciaaDoor
open Go.RowKit

theorem acc_get (l : List AccR) (i : Nat) (h : i < l.length) : (accCells l)[i * 4]? = some (.int .i64 (l.getD i acc0).n) ∧ (accCells l)[i * 4 + 1]? = some (.int .u8 (l.getD i acc0).t) ∧ (accCells l)[i * 4 + 2]? = some (.bool (l.getD i acc0).wr) ∧ (accCells l)[i * 4 + 3]? = some (.bool (l.getD i acc0).sg) := by
  unfold accCells
  simp only [List.getElem?_toArray]
  induction l generalizing i with
  | nil => simp at h
  | cons x r ih =>
    cases i with
    | zero => exact ⟨rfl, rfl, rfl, rfl⟩
    | succ i =>
      have := ih i (by simpa using h)
      have e : (i + 1) * 4 = i * 4 + 1 + 1 + 1 + 1 := by omega
      rw [e]
      exact this
theorem acc_cell {w : World} (h : ∃ t fr, w.heap[0]? = some (.cells (accCells tabA) t fr)) (i : Nat) (hi : i < 23) :
    w.cell? ⟨0, i * 4, none⟩ = some (.int .i64 (tabA.getD i acc0).n) ∧ w.cell? ⟨0, i * 4 + 1, none⟩ = some (.int .u8 (tabA.getD i acc0).t) ∧
    w.cell? ⟨0, i * 4 + 2, none⟩ = some (.bool (tabA.getD i acc0).wr) ∧ w.cell? ⟨0, i * 4 + 3, none⟩ = some (.bool (tabA.getD i acc0).sg) := by
  obtain ⟨t, fr, h⟩ := h
  obtain ⟨a, b, c, d⟩ := acc_get tabA i hi
  refine ⟨?_, ?_, ?_, ?_⟩ <;> rw [cell_of_row w _ _ _ t fr h] <;> assumption
/-- What AccessOf hands back. -/
abbrev accV (n : Nat) : Value := .tuple #[.agg #[.int .i64 (accR n).n, .int .u8 (accR n).t, .bool (accR n).wr, .bool (accR n).sg], .bool (isAcc n)]
theorem access_no (n : Nat) (w : World) (hn : n ≤ 255) (h : n < 40 ∨ 63 ≤ n) : Calls Tryd.prog 15 #[.int .u8 n] w fun e w' => e = .returned (accV n) ∧ Below w.heap.size w w' := by
  have e0 : accR n = acc0 := by
    unfold accR
    split
    · rfl
    · rw [List.getD, List.getElem?_eq_none (by show 23 ≤ _; omega)]; rfl
  have e1 : isAcc n = false := by unfold isAcc; rw [e0]; rfl
  have HE := Lib.hid (show accV n = .tuple #[.agg #[.int .i64 0, .int .u8 0, .bool false, .bool false], .bool false] by unfold accV; rw [e0, e1]; rfl)
  clear e0 e1
  rcases h with h | h
  · have d0 : decide ((n : Int) - 40 < 0) = true := by simp; omega
    go_enter Tryd.func15, Tryd.ntmps15
    go_wp2
    exact bodyPost_ret (v := .tuple #[.agg #[.int .i64 0, .int .u8 0, .bool false, .bool false], .bool false]) (by simp [results, Tryd.results15, go_sem]) rfl ⟨by rw [HE.out], (Below.refl _ _).alloc (Nat.le_refl _) _⟩
  · have d0 : decide ((n : Int) - 40 < 0) = false := by simp; omega
    go_enter Tryd.func15, Tryd.ntmps15
    go_wp2
    exact bodyPost_ret (v := .tuple #[.agg #[.int .i64 0, .int .u8 0, .bool false, .bool false], .bool false]) (by simp [results, Tryd.results15, go_sem]) rfl ⟨by rw [HE.out], (Below.refl _ _).alloc (Nat.le_refl _) _⟩
theorem access_yes (n : Nat) (w : World) (hT : Tabs w) (h1 : 40 ≤ n) (h2 : n < 63) : Calls Tryd.prog 15 #[.int .u8 n] w fun e w' => e = .returned (accV n) ∧ Below w.heap.size w w' := by
  obtain ⟨c0, c1, c2, c3⟩ := acc_cell hT.hA (n - 40) (by omega)
  have e0 : accR n = tabA.getD (n - 40) acc0 := by unfold accR; rw [if_neg (by omega)]
  rw [← e0] at c0 c1 c2 c3
  have HE := Lib.hid (show isAcc n = decide (0 < (accR n).n) from rfl)
  have HV := Lib.hid (show accV n = .tuple #[.agg #[.int .i64 (accR n).n, .int .u8 (accR n).t, .bool (accR n).wr, .bool (accR n).sg], .bool (isAcc n)] from rfl)
  clear e0
  obtain ⟨a, ha⟩ : ∃ a, a = accR n := ⟨_, rfl⟩
  rw [← ha] at c0 c1 c2 c3 HE HV
  clear ha
  have hz : 0 < w.heap.size := by obtain ⟨t, fr, h⟩ := hT.hA; exact (Array.getElem?_eq_some_iff.1 h).1
  clear hT
  have d0 : decide ((n : Int) - 40 < 0) = false := by simp; omega
  have d1 : decide (23 ≤ (n : Int) - 40) = false := by simp; omega
  go_enter Tryd.func15, Tryd.ntmps15
  go_wp2
  go_region
  all_goals
    go_wp2
    exact bodyPost_ret (v := .tuple #[.agg #[.int .i64 a.n, .int .u8 a.t, .bool a.wr, .bool a.sg], .bool (decide (0 < a.n))]) (by simp [results, Tryd.results15, go_sem]) rfl ⟨by rw [HV.out, HE.out], (((Below.refl _ _).alloc (Nat.le_refl _) _).alloc (by simp) _).drew⟩
theorem access_any (n : Nat) (w : World) (hT : Tabs w) (hn : n ≤ 255) : Calls Tryd.prog 15 #[.int .u8 n] w fun e w' => e = .returned (accV n) ∧ Below w.heap.size w w' := by
  by_cases h : n < 40 ∨ 63 ≤ n
  · exact access_no n w hn h
  · exact access_yes n w hT (by omega) (by omega)

/-- What immOf and accessTypes do: a number or two strings. -/
theorem imm_const (n : Nat) (w : World) (h : n = 2 ∨ n = 3 ∨ n = 4 ∨ n = 12 ∨ n = 13 ∨ n = 14 ∨ n = 16 ∨ n = 17 ∨ n = 32 ∨ n = 33 ∨ n = 34 ∨ n = 35 ∨ n = 36 ∨ n = 63 ∨ n = 64 ∨ n = 65 ∨ n = 66) : Calls Tryd.prog 21 #[.int .u8 n] w fun e w' => e = .returned (.int .i64 (immR n)) ∧ Below w.heap.size w w' := by
  rcases h with rfl | rfl | rfl | rfl | rfl | rfl | rfl | rfl | rfl | rfl | rfl | rfl | rfl | rfl | rfl | rfl | rfl
  all_goals
    go_enter Tryd.func21, Tryd.ntmps21
    go_wp2
    go_ret
    exact ⟨rfl, Below.refl _ _⟩
set_option maxRecDepth 100000 in
theorem imm_else (n : Nat) (w : World) (hT : Tabs w) (hn : n ≤ 255) (h2 : n ≠ 2) (h3 : n ≠ 3) (h4 : n ≠ 4) (h12 : n ≠ 12) (h13 : n ≠ 13) (h14 : n ≠ 14) (h16 : n ≠ 16) (h17 : n ≠ 17) (h32 : n ≠ 32) (h33 : n ≠ 33) (h34 : n ≠ 34) (h35 : n ≠ 35) (h36 : n ≠ 36) (h63 : n ≠ 63) (h64 : n ≠ 64) (h65 : n ≠ 65) (h66 : n ≠ 66) : Calls Tryd.prog 21 #[.int .u8 n] w fun e w' => e = .returned (.int .i64 (immR n)) ∧ Below w.heap.size w w' := by
  have HE := Lib.hid (show immR n = if isAcc n = true then 8 else 0 by unfold immR; rw [if_neg (by omega), if_neg (by omega), if_neg (by omega), if_neg (by omega), if_neg (by omega), if_neg (by omega), if_neg (by omega), if_neg (by omega), if_neg (by omega), if_neg (by omega)])
  have d2 : ((n : Int) == 2) = false := by simp; omega
  have d3 : ((n : Int) == 3) = false := by simp; omega
  have d4 : ((n : Int) == 4) = false := by simp; omega
  have d12 : ((n : Int) == 12) = false := by simp; omega
  have d13 : ((n : Int) == 13) = false := by simp; omega
  have d14 : ((n : Int) == 14) = false := by simp; omega
  have d16 : ((n : Int) == 16) = false := by simp; omega
  have d17 : ((n : Int) == 17) = false := by simp; omega
  have d32 : ((n : Int) == 32) = false := by simp; omega
  have d33 : ((n : Int) == 33) = false := by simp; omega
  have d34 : ((n : Int) == 34) = false := by simp; omega
  have d35 : ((n : Int) == 35) = false := by simp; omega
  have d36 : ((n : Int) == 36) = false := by simp; omega
  have d63 : ((n : Int) == 63) = false := by simp; omega
  have d64 : ((n : Int) == 64) = false := by simp; omega
  have d65 : ((n : Int) == 65) = false := by simp; omega
  have d66 : ((n : Int) == 66) = false := by simp; omega
  clear h2 h3 h4 h12 h13 h14 h16 h17 h32 h33 h34 h35 h36 h63 h64 h65 h66
  have HT := Lib.hid hT
  clear hT
  by_cases hx : isAcc n = true
  · rw [if_pos hx] at HE
    go_enter Tryd.func21, Tryd.ntmps21
    go_wp2_with (go_at_call 15; go_must (refine (access_any n _ HT.out hn).mono ?_; rintro e w' ⟨rfl, hb⟩; have HB := Lib.hid hb; have hz := hb.size; clear hb))
    go_ret
    exact ⟨ret_int (by rw [HE.out]; rfl), HB.out.alloc hz _⟩
  · have hx : isAcc n = false := by simpa using hx
    rw [if_neg (by rw [hx]; decide)] at HE
    go_enter Tryd.func21, Tryd.ntmps21
    go_wp2_with (go_at_call 15; go_must (refine (access_any n _ HT.out hn).mono ?_; rintro e w' ⟨rfl, hb⟩; have HB := Lib.hid hb; have hz := hb.size; clear hb))
    go_ret
    exact ⟨ret_int (by rw [HE.out]; rfl), HB.out.alloc hz _⟩
theorem imm_any (n : Nat) (w : World) (hT : Tabs w) (hn : n ≤ 255) : Calls Tryd.prog 21 #[.int .u8 n] w fun e w' => e = .returned (.int .i64 (immR n)) ∧ Below w.heap.size w w' := by
  by_cases h : n = 2 ∨ n = 3 ∨ n = 4 ∨ n = 12 ∨ n = 13 ∨ n = 14 ∨ n = 16 ∨ n = 17 ∨ n = 32 ∨ n = 33 ∨ n = 34 ∨ n = 35 ∨ n = 36 ∨ n = 63 ∨ n = 64 ∨ n = 65 ∨ n = 66
  · exact imm_const n w h
  · exact imm_else n w hT hn (by omega) (by omega) (by omega) (by omega) (by omega) (by omega) (by omega) (by omega) (by omega) (by omega) (by omega) (by omega) (by omega) (by omega) (by omega) (by omega) (by omega)
theorem opens_any (n : Nat) (w : World) (hT : Tabs w) (hn : n ≤ 255) : Calls Tryd.prog 11 #[.int .u8 n] w fun e w' => e = .returned (.bool (immR n == 1)) ∧ Below w.heap.size w w' := by
  have HT := Lib.hid hT
  clear hT
  by_cases h : immR n = 1
  · have h1 : ((immR n : Int) == 1) = true := by simp; omega
    have HE := Lib.hid (show (immR n == 1) = true by simpa using h)
    clear h
    go_enter Tryd.func11, Tryd.ntmps11
    go_wp2_with (go_at_call 21; go_must (refine (imm_any n _ HT.out hn).mono ?_; rintro e w' ⟨rfl, hb⟩; have HB := Lib.hid hb; clear hb))
    go_ret
    exact ⟨ret_bool (by rw [HE.out]), HB.out⟩
  · have h1 : ((immR n : Int) == 1) = false := by simp; omega
    have HE := Lib.hid (show (immR n == 1) = false by simpa using h)
    clear h
    go_enter Tryd.func11, Tryd.ntmps11
    go_wp2_with (go_at_call 21; go_must (refine (imm_any n _ HT.out hn).mono ?_; rintro e w' ⟨rfl, hb⟩; have HB := Lib.hid hb; clear hb))
    go_ret
    exact ⟨ret_bool (by rw [HE.out]), HB.out⟩

/-- Two strings. -/
abbrev twoV (p : List UInt8 × List UInt8) : Value := .tuple #[.string (S p.1), .string (S p.2)]
theorem ret_two {a b c d : List UInt8} {p : List UInt8 × List UInt8} (h : p = (a, b)) (ha : c = a) (hb : d = b) : Ending.returned (.tuple #[.string (S c), .string (S d)]) = .returned (twoV p) := by subst ha; subst hb; subst h; rfl
def TypesPost (n : Nat) (w : World) (e : Ending) (w' : World) : Prop := e = .returned (twoV (typesR n)) ∧ Below w.heap.size w w'
theorem accTypes_any (n : Nat) (w : World) (hT : Tabs w) (hn : n ≤ 255) : Calls Tryd.prog 26 #[.int .u8 n] w fun e w' => e = .returned (twoV (accTypes n)) ∧ Below w.heap.size w w' := by
  have HT := Lib.hid hT
  clear hT
  by_cases hx : isAcc n = true
  · by_cases hw : (accR n).wr = true
    · by_cases ht : (accR n).t = 127
      · have HE := Lib.hid (show accTypes n = ([127, 127], []) by unfold accTypes; rw [if_neg (by rw [hx]; decide), if_pos hw, if_pos ht])
        have ht1 : (((accR n).t : Int) == 127) = true := by simp; omega
        clear ht
        go_enter Tryd.func26, Tryd.ntmps26
        go_wp2_with (go_at_call 15; go_must (refine (access_any n _ HT.out hn).mono ?_; rintro e w' ⟨rfl, hb⟩; have HB := Lib.hid hb; have hz := hb.size; clear hb))
        go_ret2
        exact ⟨ret_two HE.out rfl rfl, HB.out.alloc hz _⟩
      · have HE := Lib.hid (show accTypes n = ([127, 126], []) by unfold accTypes; rw [if_neg (by rw [hx]; decide), if_pos hw, if_neg ht])
        have ht1 : (((accR n).t : Int) == 127) = false := by simp; omega
        clear ht
        go_enter Tryd.func26, Tryd.ntmps26
        go_wp2_with (go_at_call 15; go_must (refine (access_any n _ HT.out hn).mono ?_; rintro e w' ⟨rfl, hb⟩; have HB := Lib.hid hb; have hz := hb.size; clear hb))
        go_ret2
        exact ⟨ret_two HE.out rfl rfl, HB.out.alloc hz _⟩
    · have hw : (accR n).wr = false := by simpa using hw
      by_cases ht : (accR n).t = 127
      · have HE := Lib.hid (show accTypes n = ([127], [127]) by unfold accTypes; rw [if_neg (by rw [hx]; decide), if_neg (by rw [hw]; decide), if_pos ht])
        have ht1 : (((accR n).t : Int) == 127) = true := by simp; omega
        clear ht
        go_enter Tryd.func26, Tryd.ntmps26
        go_wp2_with (go_at_call 15; go_must (refine (access_any n _ HT.out hn).mono ?_; rintro e w' ⟨rfl, hb⟩; have HB := Lib.hid hb; have hz := hb.size; clear hb))
        go_ret2
        exact ⟨ret_two HE.out rfl rfl, HB.out.alloc hz _⟩
      · have HE := Lib.hid (show accTypes n = ([127], [126]) by unfold accTypes; rw [if_neg (by rw [hx]; decide), if_neg (by rw [hw]; decide), if_neg ht])
        have ht1 : (((accR n).t : Int) == 127) = false := by simp; omega
        clear ht
        go_enter Tryd.func26, Tryd.ntmps26
        go_wp2_with (go_at_call 15; go_must (refine (access_any n _ HT.out hn).mono ?_; rintro e w' ⟨rfl, hb⟩; have HB := Lib.hid hb; have hz := hb.size; clear hb))
        go_ret2
        exact ⟨ret_two HE.out rfl rfl, HB.out.alloc hz _⟩
  · have hx : isAcc n = false := by simpa using hx
    have HE := Lib.hid (show accTypes n = ([], []) by unfold accTypes; rw [if_pos hx])
    go_enter Tryd.func26, Tryd.ntmps26
    go_wp2_with (go_at_call 15; go_must (refine (access_any n _ HT.out hn).mono ?_; rintro e w' ⟨rfl, hb⟩; have HB := Lib.hid hb; have hz := hb.size; clear hb))
    go_ret2
    exact ⟨ret_two HE.out rfl rfl, HB.out.alloc hz _⟩
end Go.Proofs.YtfimjjeabbbciaaDoor

