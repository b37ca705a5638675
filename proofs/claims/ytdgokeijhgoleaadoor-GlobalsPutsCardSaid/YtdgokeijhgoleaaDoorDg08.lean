/- typesOf (made by gen/genTypes.py), float, Check, Of. -/
import Derived.Test.YtdgokeijhgoleaaDoorDg07
import Derived.Test.YtdgokeijhgoleaaDoorDg01
namespace Go.Proofs.YtdgokeijhgoleaaDoor
set_option linter.unusedVariables false
open Go.RowKit

set_option maxRecDepth 100000 in
theorem types_0_63 (n : Nat) (w : World) (h : n = 63) : Calls Tryd.prog 69 #[.int .u8 n] w (TypesPost n w) := by
  have HE := Lib.hid (show typesR n = _ by unfold typesR; rw [if_pos (by omega)])
  have t0a : ((n : Int) == 63) = true := by simp; omega
  clear h
  go_enter Tryd.func69, Tryd.ntmps69
  go_wp2_with (go_at_call 81; refine (between_any _ _ _ _).mono ?_; rintro e w' ⟨rfl, rfl⟩)
  go_ret2
  exact ⟨ret_two HE.out rfl rfl, Below.refl _ _⟩
set_option maxRecDepth 100000 in
theorem types_0_65 (n : Nat) (w : World) (h : n = 65) : Calls Tryd.prog 69 #[.int .u8 n] w (TypesPost n w) := by
  have HE := Lib.hid (show typesR n = _ by unfold typesR; rw [if_pos (by omega)])
  have t0a : ((n : Int) == 63) = false := by simp; omega
  have t0b : ((n : Int) == 65) = true := by simp; omega
  clear h
  go_enter Tryd.func69, Tryd.ntmps69
  go_wp2_with (go_at_call 81; refine (between_any _ _ _ _).mono ?_; rintro e w' ⟨rfl, rfl⟩)
  go_ret2
  exact ⟨ret_two HE.out rfl rfl, Below.refl _ _⟩
set_option maxRecDepth 100000 in
theorem types_1_64 (n : Nat) (w : World) (h : n = 64) : Calls Tryd.prog 69 #[.int .u8 n] w (TypesPost n w) := by
  have HE := Lib.hid (show typesR n = _ by unfold typesR; rw [if_neg (by omega), if_pos (by omega)])
  have t0a : ((n : Int) == 63) = false := by simp; omega
  have t0b : ((n : Int) == 65) = false := by simp; omega
  have t1a : ((n : Int) == 64) = true := by simp; omega
  clear h
  go_enter Tryd.func69, Tryd.ntmps69
  go_wp2_with (go_at_call 81; refine (between_any _ _ _ _).mono ?_; rintro e w' ⟨rfl, rfl⟩)
  go_ret2
  exact ⟨ret_two HE.out rfl rfl, Below.refl _ _⟩
set_option maxRecDepth 100000 in
theorem types_2_66 (n : Nat) (w : World) (h : n = 66) : Calls Tryd.prog 69 #[.int .u8 n] w (TypesPost n w) := by
  have HE := Lib.hid (show typesR n = _ by unfold typesR; rw [if_neg (by omega), if_neg (by omega), if_pos (by omega)])
  have t0a : ((n : Int) == 63) = false := by simp; omega
  have t0b : ((n : Int) == 65) = false := by simp; omega
  have t1a : ((n : Int) == 64) = false := by simp; omega
  have t2a : ((n : Int) == 66) = true := by simp; omega
  clear h
  go_enter Tryd.func69, Tryd.ntmps69
  go_wp2_with (go_at_call 81; refine (between_any _ _ _ _).mono ?_; rintro e w' ⟨rfl, rfl⟩)
  go_ret2
  exact ⟨ret_two HE.out rfl rfl, Below.refl _ _⟩
set_option maxRecDepth 100000 in
theorem types_3_69 (n : Nat) (w : World) (h : n = 69) : Calls Tryd.prog 69 #[.int .u8 n] w (TypesPost n w) := by
  have HE := Lib.hid (show typesR n = _ by unfold typesR; rw [if_neg (by omega), if_neg (by omega), if_neg (by omega), if_pos (by omega)])
  have t0a : ((n : Int) == 63) = false := by simp; omega
  have t0b : ((n : Int) == 65) = false := by simp; omega
  have t1a : ((n : Int) == 64) = false := by simp; omega
  have t2a : ((n : Int) == 66) = false := by simp; omega
  have t3a : ((n : Int) == 69) = true := by simp; omega
  clear h
  go_enter Tryd.func69, Tryd.ntmps69
  go_wp2_with (go_at_call 81; refine (between_any _ _ _ _).mono ?_; rintro e w' ⟨rfl, rfl⟩)
  go_ret2
  exact ⟨ret_two HE.out rfl rfl, Below.refl _ _⟩
set_option maxRecDepth 100000 in
theorem types_4 (n : Nat) (w : World) (h : 70 ≤ n ∧ n ≤ 79) : Calls Tryd.prog 69 #[.int .u8 n] w (TypesPost n w) := by
  have HE := Lib.hid (show typesR n = _ by unfold typesR; rw [if_neg (by omega), if_neg (by omega), if_neg (by omega), if_neg (by omega), if_pos (by unfold between; simp; omega)])
  have t0a : ((n : Int) == 63) = false := by simp; omega
  have t0b : ((n : Int) == 65) = false := by simp; omega
  have t1a : ((n : Int) == 64) = false := by simp; omega
  have t2a : ((n : Int) == 66) = false := by simp; omega
  have t3a : ((n : Int) == 69) = false := by simp; omega
  have t4 : between n 70 79 = true := by unfold between; simp; omega
  clear h
  go_enter Tryd.func69, Tryd.ntmps69
  go_wp2_with (go_at_call 81; refine (between_any _ _ _ _).mono ?_; rintro e w' ⟨rfl, rfl⟩)
  go_ret2
  exact ⟨ret_two HE.out rfl rfl, Below.refl _ _⟩
set_option maxRecDepth 100000 in
theorem types_5_80 (n : Nat) (w : World) (h : n = 80) : Calls Tryd.prog 69 #[.int .u8 n] w (TypesPost n w) := by
  have HE := Lib.hid (show typesR n = _ by unfold typesR; rw [if_neg (by omega), if_neg (by omega), if_neg (by omega), if_neg (by omega), if_neg (by unfold between; simp; omega), if_pos (by omega)])
  have t0a : ((n : Int) == 63) = false := by simp; omega
  have t0b : ((n : Int) == 65) = false := by simp; omega
  have t1a : ((n : Int) == 64) = false := by simp; omega
  have t2a : ((n : Int) == 66) = false := by simp; omega
  have t3a : ((n : Int) == 69) = false := by simp; omega
  have t4 : between n 70 79 = false := by unfold between; simp; omega
  have t5a : ((n : Int) == 80) = true := by simp; omega
  clear h
  go_enter Tryd.func69, Tryd.ntmps69
  go_wp2_with (go_at_call 81; refine (between_any _ _ _ _).mono ?_; rintro e w' ⟨rfl, rfl⟩)
  go_ret2
  exact ⟨ret_two HE.out rfl rfl, Below.refl _ _⟩
set_option maxRecDepth 100000 in
theorem types_6 (n : Nat) (w : World) (h : 81 ≤ n ∧ n ≤ 90) : Calls Tryd.prog 69 #[.int .u8 n] w (TypesPost n w) := by
  have HE := Lib.hid (show typesR n = _ by unfold typesR; rw [if_neg (by omega), if_neg (by omega), if_neg (by omega), if_neg (by omega), if_neg (by unfold between; simp; omega), if_neg (by omega), if_pos (by unfold between; simp; omega)])
  have t0a : ((n : Int) == 63) = false := by simp; omega
  have t0b : ((n : Int) == 65) = false := by simp; omega
  have t1a : ((n : Int) == 64) = false := by simp; omega
  have t2a : ((n : Int) == 66) = false := by simp; omega
  have t3a : ((n : Int) == 69) = false := by simp; omega
  have t4 : between n 70 79 = false := by unfold between; simp; omega
  have t5a : ((n : Int) == 80) = false := by simp; omega
  have t6 : between n 81 90 = true := by unfold between; simp; omega
  clear h
  go_enter Tryd.func69, Tryd.ntmps69
  go_wp2_with (go_at_call 81; refine (between_any _ _ _ _).mono ?_; rintro e w' ⟨rfl, rfl⟩)
  go_ret2
  exact ⟨ret_two HE.out rfl rfl, Below.refl _ _⟩
set_option maxRecDepth 100000 in
theorem types_7 (n : Nat) (w : World) (h : 103 ≤ n ∧ n ≤ 105) : Calls Tryd.prog 69 #[.int .u8 n] w (TypesPost n w) := by
  have HE := Lib.hid (show typesR n = _ by unfold typesR; rw [if_neg (by omega), if_neg (by omega), if_neg (by omega), if_neg (by omega), if_neg (by unfold between; simp; omega), if_neg (by omega), if_neg (by unfold between; simp; omega), if_pos (by unfold between; simp; omega)])
  have t0a : ((n : Int) == 63) = false := by simp; omega
  have t0b : ((n : Int) == 65) = false := by simp; omega
  have t1a : ((n : Int) == 64) = false := by simp; omega
  have t2a : ((n : Int) == 66) = false := by simp; omega
  have t3a : ((n : Int) == 69) = false := by simp; omega
  have t4 : between n 70 79 = false := by unfold between; simp; omega
  have t5a : ((n : Int) == 80) = false := by simp; omega
  have t6 : between n 81 90 = false := by unfold between; simp; omega
  have t7 : between n 103 105 = true := by unfold between; simp; omega
  clear h
  go_enter Tryd.func69, Tryd.ntmps69
  go_wp2_with (go_at_call 81; refine (between_any _ _ _ _).mono ?_; rintro e w' ⟨rfl, rfl⟩)
  go_ret2
  exact ⟨ret_two HE.out rfl rfl, Below.refl _ _⟩
set_option maxRecDepth 100000 in
theorem types_8 (n : Nat) (w : World) (h : 106 ≤ n ∧ n ≤ 120) : Calls Tryd.prog 69 #[.int .u8 n] w (TypesPost n w) := by
  have HE := Lib.hid (show typesR n = _ by unfold typesR; rw [if_neg (by omega), if_neg (by omega), if_neg (by omega), if_neg (by omega), if_neg (by unfold between; simp; omega), if_neg (by omega), if_neg (by unfold between; simp; omega), if_neg (by unfold between; simp; omega), if_pos (by unfold between; simp; omega)])
  have t0a : ((n : Int) == 63) = false := by simp; omega
  have t0b : ((n : Int) == 65) = false := by simp; omega
  have t1a : ((n : Int) == 64) = false := by simp; omega
  have t2a : ((n : Int) == 66) = false := by simp; omega
  have t3a : ((n : Int) == 69) = false := by simp; omega
  have t4 : between n 70 79 = false := by unfold between; simp; omega
  have t5a : ((n : Int) == 80) = false := by simp; omega
  have t6 : between n 81 90 = false := by unfold between; simp; omega
  have t7 : between n 103 105 = false := by unfold between; simp; omega
  have t8 : between n 106 120 = true := by unfold between; simp; omega
  clear h
  go_enter Tryd.func69, Tryd.ntmps69
  go_wp2_with (go_at_call 81; refine (between_any _ _ _ _).mono ?_; rintro e w' ⟨rfl, rfl⟩)
  go_ret2
  exact ⟨ret_two HE.out rfl rfl, Below.refl _ _⟩
set_option maxRecDepth 100000 in
theorem types_9 (n : Nat) (w : World) (h : 121 ≤ n ∧ n ≤ 123) : Calls Tryd.prog 69 #[.int .u8 n] w (TypesPost n w) := by
  have HE := Lib.hid (show typesR n = _ by unfold typesR; rw [if_neg (by omega), if_neg (by omega), if_neg (by omega), if_neg (by omega), if_neg (by unfold between; simp; omega), if_neg (by omega), if_neg (by unfold between; simp; omega), if_neg (by unfold between; simp; omega), if_neg (by unfold between; simp; omega), if_pos (by unfold between; simp; omega)])
  have t0a : ((n : Int) == 63) = false := by simp; omega
  have t0b : ((n : Int) == 65) = false := by simp; omega
  have t1a : ((n : Int) == 64) = false := by simp; omega
  have t2a : ((n : Int) == 66) = false := by simp; omega
  have t3a : ((n : Int) == 69) = false := by simp; omega
  have t4 : between n 70 79 = false := by unfold between; simp; omega
  have t5a : ((n : Int) == 80) = false := by simp; omega
  have t6 : between n 81 90 = false := by unfold between; simp; omega
  have t7 : between n 103 105 = false := by unfold between; simp; omega
  have t8 : between n 106 120 = false := by unfold between; simp; omega
  have t9 : between n 121 123 = true := by unfold between; simp; omega
  clear h
  go_enter Tryd.func69, Tryd.ntmps69
  go_wp2_with (go_at_call 81; refine (between_any _ _ _ _).mono ?_; rintro e w' ⟨rfl, rfl⟩)
  go_ret2
  exact ⟨ret_two HE.out rfl rfl, Below.refl _ _⟩
set_option maxRecDepth 100000 in
theorem types_10 (n : Nat) (w : World) (h : 124 ≤ n ∧ n ≤ 138) : Calls Tryd.prog 69 #[.int .u8 n] w (TypesPost n w) := by
  have HE := Lib.hid (show typesR n = _ by unfold typesR; rw [if_neg (by omega), if_neg (by omega), if_neg (by omega), if_neg (by omega), if_neg (by unfold between; simp; omega), if_neg (by omega), if_neg (by unfold between; simp; omega), if_neg (by unfold between; simp; omega), if_neg (by unfold between; simp; omega), if_neg (by unfold between; simp; omega), if_pos (by unfold between; simp; omega)])
  have t0a : ((n : Int) == 63) = false := by simp; omega
  have t0b : ((n : Int) == 65) = false := by simp; omega
  have t1a : ((n : Int) == 64) = false := by simp; omega
  have t2a : ((n : Int) == 66) = false := by simp; omega
  have t3a : ((n : Int) == 69) = false := by simp; omega
  have t4 : between n 70 79 = false := by unfold between; simp; omega
  have t5a : ((n : Int) == 80) = false := by simp; omega
  have t6 : between n 81 90 = false := by unfold between; simp; omega
  have t7 : between n 103 105 = false := by unfold between; simp; omega
  have t8 : between n 106 120 = false := by unfold between; simp; omega
  have t9 : between n 121 123 = false := by unfold between; simp; omega
  have t10 : between n 124 138 = true := by unfold between; simp; omega
  clear h
  go_enter Tryd.func69, Tryd.ntmps69
  go_wp2_with (go_at_call 81; refine (between_any _ _ _ _).mono ?_; rintro e w' ⟨rfl, rfl⟩)
  go_ret2
  exact ⟨ret_two HE.out rfl rfl, Below.refl _ _⟩
set_option maxRecDepth 100000 in
theorem types_11_167 (n : Nat) (w : World) (h : n = 167) : Calls Tryd.prog 69 #[.int .u8 n] w (TypesPost n w) := by
  have HE := Lib.hid (show typesR n = _ by unfold typesR; rw [if_neg (by omega), if_neg (by omega), if_neg (by omega), if_neg (by omega), if_neg (by unfold between; simp; omega), if_neg (by omega), if_neg (by unfold between; simp; omega), if_neg (by unfold between; simp; omega), if_neg (by unfold between; simp; omega), if_neg (by unfold between; simp; omega), if_neg (by unfold between; simp; omega), if_pos (by omega)])
  have t0a : ((n : Int) == 63) = false := by simp; omega
  have t0b : ((n : Int) == 65) = false := by simp; omega
  have t1a : ((n : Int) == 64) = false := by simp; omega
  have t2a : ((n : Int) == 66) = false := by simp; omega
  have t3a : ((n : Int) == 69) = false := by simp; omega
  have t4 : between n 70 79 = false := by unfold between; simp; omega
  have t5a : ((n : Int) == 80) = false := by simp; omega
  have t6 : between n 81 90 = false := by unfold between; simp; omega
  have t7 : between n 103 105 = false := by unfold between; simp; omega
  have t8 : between n 106 120 = false := by unfold between; simp; omega
  have t9 : between n 121 123 = false := by unfold between; simp; omega
  have t10 : between n 124 138 = false := by unfold between; simp; omega
  have t11a : ((n : Int) == 167) = true := by simp; omega
  clear h
  go_enter Tryd.func69, Tryd.ntmps69
  go_wp2_with (go_at_call 81; refine (between_any _ _ _ _).mono ?_; rintro e w' ⟨rfl, rfl⟩)
  go_ret2
  exact ⟨ret_two HE.out rfl rfl, Below.refl _ _⟩
set_option maxRecDepth 100000 in
theorem types_12_172 (n : Nat) (w : World) (h : n = 172) : Calls Tryd.prog 69 #[.int .u8 n] w (TypesPost n w) := by
  have HE := Lib.hid (show typesR n = _ by unfold typesR; rw [if_neg (by omega), if_neg (by omega), if_neg (by omega), if_neg (by omega), if_neg (by unfold between; simp; omega), if_neg (by omega), if_neg (by unfold between; simp; omega), if_neg (by unfold between; simp; omega), if_neg (by unfold between; simp; omega), if_neg (by unfold between; simp; omega), if_neg (by unfold between; simp; omega), if_neg (by omega), if_pos (by omega)])
  have t0a : ((n : Int) == 63) = false := by simp; omega
  have t0b : ((n : Int) == 65) = false := by simp; omega
  have t1a : ((n : Int) == 64) = false := by simp; omega
  have t2a : ((n : Int) == 66) = false := by simp; omega
  have t3a : ((n : Int) == 69) = false := by simp; omega
  have t4 : between n 70 79 = false := by unfold between; simp; omega
  have t5a : ((n : Int) == 80) = false := by simp; omega
  have t6 : between n 81 90 = false := by unfold between; simp; omega
  have t7 : between n 103 105 = false := by unfold between; simp; omega
  have t8 : between n 106 120 = false := by unfold between; simp; omega
  have t9 : between n 121 123 = false := by unfold between; simp; omega
  have t10 : between n 124 138 = false := by unfold between; simp; omega
  have t11a : ((n : Int) == 167) = false := by simp; omega
  have t12a : ((n : Int) == 172) = true := by simp; omega
  clear h
  go_enter Tryd.func69, Tryd.ntmps69
  go_wp2_with (go_at_call 81; refine (between_any _ _ _ _).mono ?_; rintro e w' ⟨rfl, rfl⟩)
  go_ret2
  exact ⟨ret_two HE.out rfl rfl, Below.refl _ _⟩
set_option maxRecDepth 100000 in
theorem types_12_173 (n : Nat) (w : World) (h : n = 173) : Calls Tryd.prog 69 #[.int .u8 n] w (TypesPost n w) := by
  have HE := Lib.hid (show typesR n = _ by unfold typesR; rw [if_neg (by omega), if_neg (by omega), if_neg (by omega), if_neg (by omega), if_neg (by unfold between; simp; omega), if_neg (by omega), if_neg (by unfold between; simp; omega), if_neg (by unfold between; simp; omega), if_neg (by unfold between; simp; omega), if_neg (by unfold between; simp; omega), if_neg (by unfold between; simp; omega), if_neg (by omega), if_pos (by omega)])
  have t0a : ((n : Int) == 63) = false := by simp; omega
  have t0b : ((n : Int) == 65) = false := by simp; omega
  have t1a : ((n : Int) == 64) = false := by simp; omega
  have t2a : ((n : Int) == 66) = false := by simp; omega
  have t3a : ((n : Int) == 69) = false := by simp; omega
  have t4 : between n 70 79 = false := by unfold between; simp; omega
  have t5a : ((n : Int) == 80) = false := by simp; omega
  have t6 : between n 81 90 = false := by unfold between; simp; omega
  have t7 : between n 103 105 = false := by unfold between; simp; omega
  have t8 : between n 106 120 = false := by unfold between; simp; omega
  have t9 : between n 121 123 = false := by unfold between; simp; omega
  have t10 : between n 124 138 = false := by unfold between; simp; omega
  have t11a : ((n : Int) == 167) = false := by simp; omega
  have t12a : ((n : Int) == 172) = false := by simp; omega
  have t12b : ((n : Int) == 173) = true := by simp; omega
  clear h
  go_enter Tryd.func69, Tryd.ntmps69
  go_wp2_with (go_at_call 81; refine (between_any _ _ _ _).mono ?_; rintro e w' ⟨rfl, rfl⟩)
  go_ret2
  exact ⟨ret_two HE.out rfl rfl, Below.refl _ _⟩
set_option maxRecDepth 100000 in
theorem types_else (n : Nat) (w : World) (hT : Tabs w) (hn : n ≤ 255) (h0 : ¬ (n = 63 ∨ n = 65)) (h1 : ¬ (n = 64)) (h2 : ¬ (n = 66)) (h3 : ¬ (n = 69)) (h4 : ¬ (70 ≤ n ∧ n ≤ 79)) (h5 : ¬ (n = 80)) (h6 : ¬ (81 ≤ n ∧ n ≤ 90)) (h7 : ¬ (103 ≤ n ∧ n ≤ 105)) (h8 : ¬ (106 ≤ n ∧ n ≤ 120)) (h9 : ¬ (121 ≤ n ∧ n ≤ 123)) (h10 : ¬ (124 ≤ n ∧ n ≤ 138)) (h11 : ¬ (n = 167)) (h12 : ¬ (n = 172 ∨ n = 173)) : Calls Tryd.prog 69 #[.int .u8 n] w (TypesPost n w) := by
  have HE := Lib.hid (show typesR n = _ by unfold typesR; rw [if_neg (by omega), if_neg (by omega), if_neg (by omega), if_neg (by omega), if_neg (by unfold between; simp; omega), if_neg (by omega), if_neg (by unfold between; simp; omega), if_neg (by unfold between; simp; omega), if_neg (by unfold between; simp; omega), if_neg (by unfold between; simp; omega), if_neg (by unfold between; simp; omega), if_neg (by omega), if_neg (by omega)])
  have t0a : ((n : Int) == 63) = false := by simp; omega
  have t0b : ((n : Int) == 65) = false := by simp; omega
  have t1a : ((n : Int) == 64) = false := by simp; omega
  have t2a : ((n : Int) == 66) = false := by simp; omega
  have t3a : ((n : Int) == 69) = false := by simp; omega
  have t4 : between n 70 79 = false := by unfold between; simp; omega
  have t5a : ((n : Int) == 80) = false := by simp; omega
  have t6 : between n 81 90 = false := by unfold between; simp; omega
  have t7 : between n 103 105 = false := by unfold between; simp; omega
  have t8 : between n 106 120 = false := by unfold between; simp; omega
  have t9 : between n 121 123 = false := by unfold between; simp; omega
  have t10 : between n 124 138 = false := by unfold between; simp; omega
  have t11a : ((n : Int) == 167) = false := by simp; omega
  have t12a : ((n : Int) == 172) = false := by simp; omega
  have t12b : ((n : Int) == 173) = false := by simp; omega
  clear h0 h1 h2 h3 h4 h5 h6 h7 h8 h9 h10 h11 h12
  have HT := Lib.hid hT
  clear hT
  go_enter Tryd.func69, Tryd.ntmps69
  go_wp2_with (first | (go_at_call 81; refine (between_any _ _ _ _).mono ?_; rintro e w' ⟨rfl, rfl⟩) | (go_at_call 82; go_must (refine (accTypes_any n _ HT.out hn).mono ?_; rintro e w' ⟨rfl, hb⟩; have HB := Lib.hid hb; clear hb)))
  go_ret2
  exact ⟨ret_two HE.out rfl rfl, HB.out⟩
theorem types_any (n : Nat) (w : World) (hT : Tabs w) (hn : n ≤ 255) : Calls Tryd.prog 69 #[.int .u8 n] w (TypesPost n w) := by
  by_cases h0_63 : n = 63
  · exact types_0_63 n w h0_63
  by_cases h0_65 : n = 65
  · exact types_0_65 n w h0_65
  by_cases h1_64 : n = 64
  · exact types_1_64 n w h1_64
  by_cases h2_66 : n = 66
  · exact types_2_66 n w h2_66
  by_cases h3_69 : n = 69
  · exact types_3_69 n w h3_69
  by_cases h4 : 70 ≤ n ∧ n ≤ 79
  · exact types_4 n w h4
  by_cases h5_80 : n = 80
  · exact types_5_80 n w h5_80
  by_cases h6 : 81 ≤ n ∧ n ≤ 90
  · exact types_6 n w h6
  by_cases h7 : 103 ≤ n ∧ n ≤ 105
  · exact types_7 n w h7
  by_cases h8 : 106 ≤ n ∧ n ≤ 120
  · exact types_8 n w h8
  by_cases h9 : 121 ≤ n ∧ n ≤ 123
  · exact types_9 n w h9
  by_cases h10 : 124 ≤ n ∧ n ≤ 138
  · exact types_10 n w h10
  by_cases h11_167 : n = 167
  · exact types_11_167 n w h11_167
  by_cases h12_172 : n = 172
  · exact types_12_172 n w h12_172
  by_cases h12_173 : n = 173
  · exact types_12_173 n w h12_173
  exact types_else n w hT hn (by omega) (by omega) (by omega) (by omega) (by omega) (by omega) (by omega) (by omega) (by omega) (by omega) (by omega) (by omega) (by omega)

theorem float_const (n : Nat) (w : World) (h : n = 42 ∨ n = 43 ∨ n = 56 ∨ n = 57 ∨ n = 67 ∨ n = 68) : Calls Tryd.prog 68 #[.int .u8 n] w fun e w' => e = .returned (.bool (floatR n)) ∧ w = w' := by
  rcases h with rfl | rfl | rfl | rfl | rfl | rfl
  all_goals
    go_enter Tryd.func68, Tryd.ntmps68
    go_wp2
    go_ret
    exact ⟨rfl, rfl⟩
theorem float_else (n : Nat) (w : World) (h : ¬ (n = 42 ∨ n = 43 ∨ n = 56 ∨ n = 57 ∨ n = 67 ∨ n = 68)) : Calls Tryd.prog 68 #[.int .u8 n] w fun e w' => e = .returned (.bool (floatR n)) ∧ w = w' := by
  have d42 : ((n : Int) == 42) = false := by simp; omega
  have d43 : ((n : Int) == 43) = false := by simp; omega
  have d56 : ((n : Int) == 56) = false := by simp; omega
  have d57 : ((n : Int) == 57) = false := by simp; omega
  have d67 : ((n : Int) == 67) = false := by simp; omega
  have d68 : ((n : Int) == 68) = false := by simp; omega
  have HE := Lib.hid (show floatR n = (between n 91 102 || between n 139 166 || between n 168 171 || between n 174 191) by unfold floatR; rw [decide_eq_false h]; rfl)
  clear h
  by_cases b1 : between n 91 102 = true
  · rw [b1] at HE
    go_enter Tryd.func68, Tryd.ntmps68
    go_wp2_with (go_at_call 81; refine (between_any _ _ _ _).mono ?_; rintro e w' ⟨rfl, rfl⟩)
    go_ret
    exact ⟨ret_bool (by rw [HE.out]; rfl), rfl⟩
  · have b1 : between n 91 102 = false := by simpa using b1
    rw [b1] at HE
    by_cases b2 : between n 139 166 = true
    · rw [b2] at HE
      go_enter Tryd.func68, Tryd.ntmps68
      go_wp2_with (go_at_call 81; refine (between_any _ _ _ _).mono ?_; rintro e w' ⟨rfl, rfl⟩)
      go_ret
      exact ⟨ret_bool (by rw [HE.out]; rfl), rfl⟩
    · have b2 : between n 139 166 = false := by simpa using b2
      rw [b2] at HE
      by_cases b3 : between n 168 171 = true
      · rw [b3] at HE
        go_enter Tryd.func68, Tryd.ntmps68
        go_wp2_with (go_at_call 81; refine (between_any _ _ _ _).mono ?_; rintro e w' ⟨rfl, rfl⟩)
        go_ret
        exact ⟨ret_bool (by rw [HE.out]; rfl), rfl⟩
      · have b3 : between n 168 171 = false := by simpa using b3
        rw [b3] at HE
        go_enter Tryd.func68, Tryd.ntmps68
        go_wp2_with (go_at_call 81; refine (between_any _ _ _ _).mono ?_; rintro e w' ⟨rfl, rfl⟩)
        go_ret
        exact ⟨ret_bool (by rw [HE.out]; rfl), rfl⟩
theorem float_any (n : Nat) (w : World) : Calls Tryd.prog 68 #[.int .u8 n] w fun e w' => e = .returned (.bool (floatR n)) ∧ w = w' := by
  by_cases h : n = 42 ∨ n = 43 ∨ n = 56 ∨ n = 57 ∨ n = 67 ∨ n = 68
  · exact float_const n w h
  · exact float_else n w h

theorem check_any (n : Nat) (w : World) (hT : Tabs w) (hn : n ≤ 255) : Calls Tryd.prog 47 #[.int .u8 n] w fun e w' => e = .returned (.int .i64 (checkR n)) ∧ w = w' := by
  have HT := Lib.hid hT
  clear hT
  by_cases h : nameR n = []
  · have s1 : (S (nameR n)).toList.isEmpty = true := by rw [S_toList, h]; rfl
    by_cases hf : floatR n = true
    · have HE := Lib.hid (show checkR n = 8 by unfold checkR; rw [if_neg (by simpa using h), if_pos hf])
      clear h
      go_enter Tryd.func47, Tryd.ntmps47
      go_wp2_with (first | (go_at_call 67; go_must (refine (name_any n _ HT.out hn).mono ?_; rintro e w' ⟨rfl, rfl⟩)) | (go_at_call 68; go_must (refine (float_any n _).mono ?_; rintro e w' ⟨rfl, rfl⟩)))
      go_ret
      exact ⟨ret_int (by rw [HE.out]; rfl), rfl⟩
    · have hf : floatR n = false := by simpa using hf
      have HE := Lib.hid (show checkR n = 9 by unfold checkR; rw [if_neg (by simpa using h), if_neg (by rw [hf]; decide)])
      clear h
      go_enter Tryd.func47, Tryd.ntmps47
      go_wp2_with (first | (go_at_call 67; go_must (refine (name_any n _ HT.out hn).mono ?_; rintro e w' ⟨rfl, rfl⟩)) | (go_at_call 68; go_must (refine (float_any n _).mono ?_; rintro e w' ⟨rfl, rfl⟩)))
      go_ret
      exact ⟨ret_int (by rw [HE.out]; rfl), rfl⟩
  · have s1 : (S (nameR n)).toList.isEmpty = false := by rw [S_toList]; simpa using h
    have HE := Lib.hid (show checkR n = 0 by unfold checkR; rw [if_pos h])
    clear h
    go_enter Tryd.func47, Tryd.ntmps47
    go_wp2_with (first | (go_at_call 67; go_must (refine (name_any n _ HT.out hn).mono ?_; rintro e w' ⟨rfl, rfl⟩)) | (go_at_call 68; go_must (refine (float_any n _).mono ?_; rintro e w' ⟨rfl, rfl⟩)))
    go_ret
    exact ⟨ret_int (by rw [HE.out]; rfl), rfl⟩

/-- What Of hands back. -/
def infV (i : Inf) : Value := .agg #[.string (S i.name), .int .i64 i.imm, .string (S i.ps), .string (S i.rs), .bool i.free]
theorem of_any (n : Nat) (w : World) (hT : Tabs w) (hn : n ≤ 255) : Calls Tryd.prog 48 #[.int .u8 n] w fun e w' => e = .returned (infV (infR n)) ∧ Below w.heap.size w w' := by
  have HT := Lib.hid hT
  have HT1 := Lib.hid (fun (o : Obj) => hT.below ((Below.refl w.heap.size w).alloc (Nat.le_refl _) o))
  clear hT
  by_cases h : nameR n = []
  · have s1 : (S (nameR n)).toList.isEmpty = true := by rw [S_toList, h]; rfl
    have HE := Lib.hid (show infR n = ⟨[], 0, [], [], false⟩ by unfold infR; rw [if_pos h])
    clear h
    go_enter Tryd.func48, Tryd.ntmps48
    go_wp2_with (go_at_call 67; go_must (refine (name_any n _ (HT1.out _) hn).mono ?_; rintro e w' ⟨rfl, rfl⟩))
    exact bodyPost_ret (v := infV ⟨[], 0, [], [], false⟩) (by simp [results, Tryd.results48, go_sem]; rfl) rfl ⟨by rw [HE.out], (Below.refl _ _).alloc (Nat.le_refl _) _⟩
  · have s1 : (S (nameR n)).toList.isEmpty = false := by rw [S_toList]; simpa using h
    have HE := Lib.hid (show infR n = ⟨nameR n, immR n, (typesR n).1, (typesR n).2, freeR n⟩ by unfold infR; rw [if_neg h])
    clear h
    go_enter Tryd.func48, Tryd.ntmps48
    go_wp2_with (first | (go_at_call 67; go_must (refine (name_any n _ (HT1.out _) hn).mono ?_; rintro e w' ⟨rfl, rfl⟩)) | (go_at_call 71; go_must (refine (free_any n _ hn).mono ?_; rintro e w' ⟨rfl, rfl⟩)) | (go_at_call 69; go_must (refine (types_any n _ (HT1.out _) hn).mono ?_; rintro e w1 ⟨rfl, hb1⟩; have HB1 := Lib.hid hb1; have hz1 := hb1.size; clear hb1)) | (go_at_call 70; go_must (refine (imm_any n _ ((HT1.out _).below HB1.out) hn).mono ?_; rintro e w2 ⟨rfl, hb2⟩; have hz2 := hb2.size; have hW := Lib.hid (((Whole.made w 78 #[.string ⟨#[]⟩, .int .i64 0, .string ⟨#[]⟩, .string ⟨#[]⟩, .bool false]).below HB1.out).below hb2); have HB2 := Lib.hid hb2; clear hb2; have c0 : w2.cell? ⟨w.heap.size, 0, none⟩ = some (.string ⟨#[]⟩) := hW.out.cell 0; have c1 : w2.cell? ⟨w.heap.size, 1, none⟩ = some (.int .i64 0) := hW.out.cell 1; have c2 : w2.cell? ⟨w.heap.size, 2, none⟩ = some (.string ⟨#[]⟩) := hW.out.cell 2; have c3 : w2.cell? ⟨w.heap.size, 3, none⟩ = some (.string ⟨#[]⟩) := hW.out.cell 3; have c4 : w2.cell? ⟨w.heap.size, 4, none⟩ = some (.bool false) := hW.out.cell 4; have f0 := hW.out.frozen 0; have f1 := hW.out.frozen 1; have f2 := hW.out.frozen 2; have f3 := hW.out.frozen 3; have f4 := hW.out.frozen 4)))
    exact bodyPost_ret (v := infV ⟨nameR n, immR n, (typesR n).1, (typesR n).2, freeR n⟩) (by simp [results, Tryd.results48, go_sem, infV, c0, c1, c2, c3, c4]) rfl ⟨by rw [HE.out],
      ((((((((Below.refl _ _).alloc (Nat.le_refl _) _).trans (HB1.out.mono (by simp))).trans (HB2.out.mono (by simp at hz1; omega))).setCell (Nat.le_refl _) _).setCell (Nat.le_refl _) _).setCell (Nat.le_refl _) _).setCell (Nat.le_refl _) _).setCell (Nat.le_refl _) _⟩
end Go.Proofs.YtdgokeijhgoleaaDoor

/- An instruction as plain data; what a value and a box hold of it. -/
namespace Go.Proofs.YtdgokeijhgoleaaDoor
open Go.RowKit
set_option linter.unusedVariables false

structure I where
  op : UInt8
  a : Int
  b : Int
  l : List Int
abbrev I.n (i : I) : Nat := i.op.toNat
theorem I.n_le (i : I) : i.n ≤ 255 := by have := i.op.toNat_lt; show i.op.toNat ≤ 255; omega
def cells32 (l : List Int) : List Value := l.map (.int .u32)
theorem cells32_length (l : List Int) : (cells32 l).length = l.length := by simp [cells32]
/-- Its numbers are what their kinds hold. -/
structure I.Ok (i : I) : Prop where
  a0 : 0 ≤ i.a
  a1 : i.a ≤ 18446744073709551615
  b0 : 0 ≤ i.b
  b1 : i.b ≤ 18446744073709551615
  l0 : ∀ c ∈ i.l, 0 ≤ c ∧ c ≤ 4294967295
/-- The value, its labels at A. -/
abbrev insV (i : I) (A : Option Addr) (c : Nat) : Value := .agg #[.int .u8 i.op.toNat, .int .u64 i.a, .int .u64 i.b, .slice A i.l.length c]
abbrev insC (i : I) (A : Option Addr) (c : Nat) : Array Value := #[.int .u8 i.op.toNat, .int .u64 i.a, .int .u64 i.b, .slice A i.l.length c]
/-- A box of the function's own that holds it. -/
def BoxI (w W : World) (i : I) (A : Option Addr) (c : Nat) : Prop := Whole W w.heap.size 27 (insC i A c) ∧ Below w.heap.size w W
section
variable {w W W' : World} {i : I} {A : Option Addr} {c : Nat}
theorem BoxI.start (w : World) (i : I) (A : Option Addr) (c : Nat) : BoxI w (w.alloc (.cells (insC i A c) 27)) i A c := ⟨Whole.made _ _ _, (Below.refl _ _).alloc (Nat.le_refl _) _⟩
theorem BoxI.on (h : BoxI w W i A c) (hb : Below W.heap.size W W') : BoxI w W' i A c := ⟨h.1.below hb, h.2.trans (hb.mono h.2.size)⟩
theorem BoxI.drewN (h : BoxI w W i A c) (n : Nat) : BoxI w (W.drewN n) i A c := ⟨h.1, ⟨h.2.os, h.2.tape, h.2.output, h.2.size, h.2.block⟩⟩
theorem BoxI.lt (h : BoxI w W i A c) : w.heap.size < W.heap.size := h.1.lt
theorem BoxI.c0 (h : BoxI w W i A c) : W.cell? ⟨w.heap.size, 0, none⟩ = some (.int .u8 i.op.toNat) := h.1.cell 0
theorem BoxI.c1 (h : BoxI w W i A c) : W.cell? ⟨w.heap.size, 1, none⟩ = some (.int .u64 i.a) := h.1.cell 1
theorem BoxI.c2 (h : BoxI w W i A c) : W.cell? ⟨w.heap.size, 2, none⟩ = some (.int .u64 i.b) := h.1.cell 2
theorem BoxI.c3 (h : BoxI w W i A c) : W.cell? ⟨w.heap.size, 3, none⟩ = some (.slice A i.l.length c) := h.1.cell 3
end

/-- A block's type, as a number. -/
def blockZ (t : Int) : Int := if t = 64 then 0 else if 255 < t then 7 else valueZ t
/-- May A and B be those of such immediates? -/
def numsZ (m : Nat) (a b : Int) : Int :=
  if m = 1 then blockZ a else if m = 0 ∨ m = 9 then (if a = 0 then 0 else 1) else if m = 11 then 0 else if a ≤ 4294967295 ∧ b ≤ 4294967295 then 0 else 1
def rightZ (i : I) : Int :=
  if checkR i.n ≠ 0 then checkR i.n
  else if 0 < i.l.length ∧ immR i.n ≠ 3 then 1
  else if 10000 < i.l.length then 29
  else if i.b ≠ 0 ∧ immR i.n ≠ 8 then 1
  else numsZ (immR i.n) i.a i.b
/-- What both know of an opcode. -/
def sameImm (n : Nat) : Bool := checkR n != 0 || ((infR n).imm == immR n && ((refR n).getD row0).imm == immR n)
theorem imm_all : ∀ n, n < 256 → sameImm n = true := by decide +kernel
theorem imm_same {n : Nat} (hn : n ≤ 255) (h : checkR n = 0) : (infR n).imm = immR n ∧ ((refR n).getD row0).imm = immR n := by
  have := imm_all n (by omega)
  unfold sameImm at this
  rw [h] at this
  simpa using this
theorem check_same {n : Nat} (hn : n ≤ 255) : checkR n = refCheck n := by
  have := tell_all n (by omega)
  unfold sameTell at this
  simp only [Bool.and_eq_true, beq_iff_eq] at this
  exact this.1.1
theorem imm_none {n : Nat} (h : immR n = 9 ∨ True) : True := trivial
theorem field_imm (a c d : ByteArray) (b : Int) (f : Bool) (wx : World) : (Instr.field 78 (.agg #[.string a, .int .i64 b, .string c, .string d, .bool f]) 1).run Tryd.prog wx = .ok (.int .i64 b) wx := by kernel_rfl

theorem argUnless_any (p : Bool) (w : World) : Calls Tryd.prog 73 #[.bool p] w fun e w' => e = .returned (.int .i64 (if p then 0 else 1)) ∧ w = w' := by
  cases p
  · go_enter Tryd.func73, Tryd.ntmps73
    go_wp2
    go_ret
    exact ⟨rfl, rfl⟩
  · go_enter Tryd.func73, Tryd.ntmps73
    go_wp2
    go_ret
    exact ⟨rfl, rfl⟩
theorem block_any (t : Int) (w : World) (h0 : 0 ≤ t) : Calls Tryd.prog 72 #[.int .u64 t] w fun e w' => e = .returned (.int .i64 (blockZ t)) ∧ w = w' := by
  by_cases h1 : t = 64
  · subst h1
    go_enter Tryd.func72, Tryd.ntmps72
    go_wp2
    go_ret
    exact ⟨rfl, rfl⟩
  · have b1 : (t == 64) = false := by simpa using h1
    by_cases h2 : 255 < t
    · have HE := Lib.hid (show blockZ t = 7 by unfold blockZ; rw [if_neg h1, if_pos h2])
      go_enter Tryd.func72, Tryd.ntmps72
      go_wp2
      go_ret
      exact ⟨ret_int HE.out.symm, rfl⟩
    · have HE := Lib.hid (show blockZ t = valueZ t by unfold blockZ; rw [if_neg h1, if_neg h2])
      have b2 : decide (255 < t) = false := by simpa using h2
      have hw : IntKind.u8.wrap t = t := by simp [IntKind.wrap, IntKind.bits, IntKind.signed]; omega
      go_enter Tryd.func72, Tryd.ntmps72
      go_wp2_with (go_at_call 19; go_must (refine (value_any _ _).mono ?_; rintro e w' ⟨rfl, rfl⟩))
      go_ret
      exact ⟨ret_int HE.out.symm, rfl⟩
end Go.Proofs.YtdgokeijhgoleaaDoor

/- Right: the program's and the reference's. (By gen/genRight.py.) -/
namespace Go.Proofs.YtdgokeijhgoleaaDoor
open Go.RowKit
set_option linter.unusedVariables false
set_option maxRecDepth 100000

def IntPost (z : Int) (w : World) (e : Ending) (w' : World) : Prop := e = .returned (.int .i64 z) ∧ Below w.heap.size w w'
theorem ret_below {z y : Int} {w w' : World} (h : z = y) (hb : Below w.heap.size w w') : IntPost y w (.returned (.int .i64 z)) w' := ⟨by rw [h], hb⟩

theorem numbers_any (i : I) (A : Option Addr) (c m : Nat) (w : World) (h : i.Ok) :
    Calls Tryd.prog 49 #[insV i A c, .int .i64 m] w (IntPost (numsZ m i.a i.b) w) := by
  obtain ⟨a0, a1, b0, b1, _⟩ := h
  have HB := Lib.hid (BoxI.start w i A c)
  by_cases m1 : m = 1
  · subst m1
    have HE := Lib.hid (show numsZ 1 i.a i.b = blockZ i.a by unfold numsZ; rw [if_pos rfl])
    go_enter Tryd.func49, Tryd.ntmps49
    go_wp2_with (go_at_call 72; go_must (refine (block_any _ _ a0).mono ?_; rintro e w' ⟨rfl, rfl⟩))
    go_ret
    exact ret_below (by rw [HE.out]) HB.out.2
  · have d1 : ((m : Int) == 1) = false := by simp; omega
    by_cases m0 : m = 0 ∨ m = 9
    · rcases m0 with m0 | m0
      · subst m0
        by_cases hz : i.a = 0
        · have dz : (i.a == 0) = true := by simpa using hz
          have HE := Lib.hid (show numsZ 0 i.a i.b = 0 by unfold numsZ; rw [if_neg (by omega), if_pos (by omega), if_pos hz])
          clear hz
          go_enter Tryd.func49, Tryd.ntmps49
          go_wp2_with (go_at_call 73; go_must (refine (argUnless_any _ _).mono ?_; rintro e w' ⟨rfl, rfl⟩))
          go_ret
          exact ret_below (by rw [HE.out]) HB.out.2
        · have dz : (i.a == 0) = false := by simpa using hz
          have HE := Lib.hid (show numsZ 0 i.a i.b = 1 by unfold numsZ; rw [if_neg (by omega), if_pos (by omega), if_neg hz])
          clear hz
          go_enter Tryd.func49, Tryd.ntmps49
          go_wp2_with (go_at_call 73; go_must (refine (argUnless_any _ _).mono ?_; rintro e w' ⟨rfl, rfl⟩))
          go_ret
          exact ret_below (by rw [HE.out]) HB.out.2
      · subst m0
        by_cases hz : i.a = 0
        · have dz : (i.a == 0) = true := by simpa using hz
          have HE := Lib.hid (show numsZ 9 i.a i.b = 0 by unfold numsZ; rw [if_neg (by omega), if_pos (by omega), if_pos hz])
          clear hz
          go_enter Tryd.func49, Tryd.ntmps49
          go_wp2_with (go_at_call 73; go_must (refine (argUnless_any _ _).mono ?_; rintro e w' ⟨rfl, rfl⟩))
          go_ret
          exact ret_below (by rw [HE.out]) HB.out.2
        · have dz : (i.a == 0) = false := by simpa using hz
          have HE := Lib.hid (show numsZ 9 i.a i.b = 1 by unfold numsZ; rw [if_neg (by omega), if_pos (by omega), if_neg hz])
          clear hz
          go_enter Tryd.func49, Tryd.ntmps49
          go_wp2_with (go_at_call 73; go_must (refine (argUnless_any _ _).mono ?_; rintro e w' ⟨rfl, rfl⟩))
          go_ret
          exact ret_below (by rw [HE.out]) HB.out.2
    · have d0 : ((m : Int) == 0) = false := by simp; omega
      have d9 : ((m : Int) == 9) = false := by simp; omega
      by_cases m11 : m = 11
      · subst m11
        have HE := Lib.hid (show numsZ 11 i.a i.b = 0 by unfold numsZ; rw [if_neg (by omega), if_neg (by omega), if_pos rfl])
        go_enter Tryd.func49, Tryd.ntmps49
        go_wp2
        go_ret
        exact ret_below (by rw [HE.out]) HB.out.2
      · have d11 : ((m : Int) == 11) = false := by simp; omega
        by_cases ha : i.a ≤ 4294967295
        · have da : decide (i.a ≤ 4294967295) = true := by simpa using ha
          by_cases hz : i.b ≤ 4294967295
          · have dz : decide (i.b ≤ 4294967295) = true := by simpa using hz
            have HE := Lib.hid (show numsZ m i.a i.b = 0 by unfold numsZ; rw [if_neg m1, if_neg m0, if_neg m11, if_pos ⟨ha, hz⟩])
            clear hz
            go_enter Tryd.func49, Tryd.ntmps49
            go_wp2_with (go_at_call 73; go_must (refine (argUnless_any _ _).mono ?_; rintro e w' ⟨rfl, rfl⟩))
            go_ret
            exact ret_below (by rw [HE.out]) HB.out.2
          · have dz : decide (i.b ≤ 4294967295) = false := by simpa using hz
            have HE := Lib.hid (show numsZ m i.a i.b = 1 by unfold numsZ; rw [if_neg m1, if_neg m0, if_neg m11, if_neg (by omega)])
            go_enter Tryd.func49, Tryd.ntmps49
            go_wp2_with (go_at_call 73; go_must (refine (argUnless_any _ _).mono ?_; rintro e w' ⟨rfl, rfl⟩))
            go_ret
            exact ret_below (by rw [HE.out]) HB.out.2
        · have da : decide (i.a ≤ 4294967295) = false := by simpa using ha
          have HE := Lib.hid (show numsZ m i.a i.b = 1 by unfold numsZ; rw [if_neg m1, if_neg m0, if_neg m11, if_neg (by omega)])
          go_enter Tryd.func49, Tryd.ntmps49
          go_wp2_with (go_at_call 73; go_must (refine (argUnless_any _ _).mono ?_; rintro e w' ⟨rfl, rfl⟩))
          go_ret
          exact ret_below (by rw [HE.out]) HB.out.2

theorem right_any (i : I) (A : Option Addr) (c : Nat) (w : World) (h : i.Ok) (hT : Tabs w) (hl : (i.l.length : Int) ≤ 9223372036854775807) :
    Calls Tryd.prog 32 #[insV i A c] w (IntPost (rightZ i) w) := by
  have hn := i.n_le
  have HO := Lib.hid h
  have HT := Lib.hid hT
  have HB := Lib.hid (BoxI.start w i A c)
  have HT1 := Lib.hid (hT.below HB.out.2)
  clear hT h
  obtain ⟨k, hk⟩ : ∃ k, k = checkR i.n := ⟨_, rfl⟩
  have HC : Hid (∀ W, Tabs W → Calls Tryd.prog 47 #[.int .u8 i.op.toNat] W fun e w' => e = .returned (.int .i64 (k : Nat)) ∧ W = w') := fun W hW => by rw [hk]; exact check_any i.n W hW hn
  by_cases k0 : k = 0
  · subst k0
    obtain ⟨m, hm⟩ : ∃ m, m = immR i.n := ⟨_, rfl⟩
    obtain ⟨inf, hinf⟩ : ∃ inf, inf = infR i.n := ⟨_, rfl⟩
    have him : inf.imm = m := by rw [hinf, hm]; exact (imm_same hn hk.symm).1
    have HI : Hid (∀ W, Tabs W → Calls Tryd.prog 48 #[.int .u8 i.op.toNat] W fun e w' => e = .returned (infV inf) ∧ Below W.heap.size W w') := fun W hW => by rw [hinf]; exact of_any i.n W hW hn
    have hfield := fun z wx => field_imm (S inf.name) (S inf.ps) (S inf.rs) z inf.free wx
    have HR := Lib.hid (show rightZ i = if 0 < i.l.length ∧ m ≠ 3 then 1 else if 10000 < i.l.length then 29 else if i.b ≠ 0 ∧ m ≠ 8 then 1 else numsZ m i.a i.b by unfold rightZ; rw [← hk, ← hm]; rfl)
    have HN := Lib.hid (fun W => numbers_any i A c m W HO.out)
    clear hinf hm hk
    by_cases hl0 : 0 < i.l.length
    · have dl : decide (0 < (i.l.length : Int)) = true := decide_eq_true (by omega)
      by_cases m3 : m = 3
      · subst m3
        by_cases hl1 : 10000 < i.l.length
        · have dl1 : decide (10000 < (i.l.length : Int)) = true := decide_eq_true (by omega)
          have HE := Lib.hid (show rightZ i = 29 by rw [HR.out]; rw [if_neg (by omega), if_pos hl1])
          go_enter Tryd.func32, Tryd.ntmps32
          go_wp2_with (first
            | (go_at_call 47; go_must (refine (HC.out _ HT1.out).mono ?_; rintro e w' ⟨rfl, rfl⟩))
            | (go_at_call 48; go_must (refine (HI.out _ HT1.out).mono ?_; rintro e w1 ⟨rfl, hb⟩; unfold infV; have HB1 := Lib.hid (HB.out.on hb); have c1 := HB1.out.c0; have c2 := HB1.out.c1; have c3 := HB1.out.c2; have c4 := HB1.out.c3; clear hb))
            | (go_at_call 49; go_must (refine (HN.out _).mono ?_; rintro e w2 ⟨rfl, hb⟩; have HB2 := Lib.hid (HB1.out.on hb); clear hb)))
          go_ret
          exact ret_below HE.out.symm HB1.out.2
        · have dl1 : decide (10000 < (i.l.length : Int)) = false := decide_eq_false (by omega)
          by_cases hb0 : i.b = 0
          · have db : (i.b != 0) = false := by simp [hb0]
            have HE := Lib.hid (show rightZ i = numsZ 3 i.a i.b by rw [HR.out]; rw [if_neg (by omega), if_neg hl1]; rw [if_neg (by omega)])
            clear hb0
            go_enter Tryd.func32, Tryd.ntmps32
            go_wp2_with (first
              | (go_at_call 47; go_must (refine (HC.out _ HT1.out).mono ?_; rintro e w' ⟨rfl, rfl⟩))
              | (go_at_call 48; go_must (refine (HI.out _ HT1.out).mono ?_; rintro e w1 ⟨rfl, hb⟩; unfold infV; have HB1 := Lib.hid (HB.out.on hb); have c1 := HB1.out.c0; have c2 := HB1.out.c1; have c3 := HB1.out.c2; have c4 := HB1.out.c3; clear hb))
              | (go_at_call 49; go_must (refine (HN.out _).mono ?_; rintro e w2 ⟨rfl, hb⟩; have HB2 := Lib.hid (HB1.out.on hb); clear hb)))
            go_ret
            exact ret_below HE.out.symm HB2.out.2
          · have db : (i.b != 0) = true := by simpa using hb0
            have d8 : ((3 : Int) != 8) = true := by decide
            have HE := Lib.hid (show rightZ i = 1 by rw [HR.out]; rw [if_neg (by omega), if_neg hl1]; rw [if_pos (by omega)])
            go_enter Tryd.func32, Tryd.ntmps32
            go_wp2_with (first
              | (go_at_call 47; go_must (refine (HC.out _ HT1.out).mono ?_; rintro e w' ⟨rfl, rfl⟩))
              | (go_at_call 48; go_must (refine (HI.out _ HT1.out).mono ?_; rintro e w1 ⟨rfl, hb⟩; unfold infV; have HB1 := Lib.hid (HB.out.on hb); have c1 := HB1.out.c0; have c2 := HB1.out.c1; have c3 := HB1.out.c2; have c4 := HB1.out.c3; clear hb))
              | (go_at_call 49; go_must (refine (HN.out _).mono ?_; rintro e w2 ⟨rfl, hb⟩; have HB2 := Lib.hid (HB1.out.on hb); clear hb)))
            go_ret
            exact ret_below HE.out.symm HB1.out.2
      · have d3 : ((m : Int) != 3) = true := by simp; omega
        have HE := Lib.hid (show rightZ i = 1 by rw [HR.out]; rw [if_pos ⟨hl0, m3⟩])
        go_enter Tryd.func32, Tryd.ntmps32
        go_wp2_with (first
          | (go_at_call 47; go_must (refine (HC.out _ HT1.out).mono ?_; rintro e w' ⟨rfl, rfl⟩))
          | (go_at_call 48; go_must (refine (HI.out _ HT1.out).mono ?_; rintro e w1 ⟨rfl, hb⟩; unfold infV; have HB1 := Lib.hid (HB.out.on hb); have c1 := HB1.out.c0; have c2 := HB1.out.c1; have c3 := HB1.out.c2; have c4 := HB1.out.c3; clear hb))
          | (go_at_call 49; go_must (refine (HN.out _).mono ?_; rintro e w2 ⟨rfl, hb⟩; have HB2 := Lib.hid (HB1.out.on hb); clear hb)))
        go_ret
        exact ret_below HE.out.symm HB1.out.2
    · have dl : decide (0 < (i.l.length : Int)) = false := decide_eq_false (by omega)
      have dl1 : decide (10000 < (i.l.length : Int)) = false := decide_eq_false (by omega)
      by_cases hb0 : i.b = 0
      · have db : (i.b != 0) = false := by simp [hb0]
        have HE := Lib.hid (show rightZ i = numsZ m i.a i.b by rw [HR.out]; rw [if_neg (by omega), if_neg (by omega)]; rw [if_neg (by omega)])
        clear hb0
        go_enter Tryd.func32, Tryd.ntmps32
        go_wp2_with (first
          | (go_at_call 47; go_must (refine (HC.out _ HT1.out).mono ?_; rintro e w' ⟨rfl, rfl⟩))
          | (go_at_call 48; go_must (refine (HI.out _ HT1.out).mono ?_; rintro e w1 ⟨rfl, hb⟩; unfold infV; have HB1 := Lib.hid (HB.out.on hb); have c1 := HB1.out.c0; have c2 := HB1.out.c1; have c3 := HB1.out.c2; have c4 := HB1.out.c3; clear hb))
          | (go_at_call 49; go_must (refine (HN.out _).mono ?_; rintro e w2 ⟨rfl, hb⟩; have HB2 := Lib.hid (HB1.out.on hb); clear hb)))
        go_ret
        exact ret_below HE.out.symm HB2.out.2
      · have db : (i.b != 0) = true := by simpa using hb0
        by_cases m8 : m = 8
        · subst m8
          have HE := Lib.hid (show rightZ i = numsZ 8 i.a i.b by rw [HR.out]; rw [if_neg (by omega), if_neg (by omega)]; rw [if_neg (by omega)])
          go_enter Tryd.func32, Tryd.ntmps32
          go_wp2_with (first
            | (go_at_call 47; go_must (refine (HC.out _ HT1.out).mono ?_; rintro e w' ⟨rfl, rfl⟩))
            | (go_at_call 48; go_must (refine (HI.out _ HT1.out).mono ?_; rintro e w1 ⟨rfl, hb⟩; unfold infV; have HB1 := Lib.hid (HB.out.on hb); have c1 := HB1.out.c0; have c2 := HB1.out.c1; have c3 := HB1.out.c2; have c4 := HB1.out.c3; clear hb))
            | (go_at_call 49; go_must (refine (HN.out _).mono ?_; rintro e w2 ⟨rfl, hb⟩; have HB2 := Lib.hid (HB1.out.on hb); clear hb)))
          go_ret
          exact ret_below HE.out.symm HB2.out.2
        · have d8 : ((m : Int) != 8) = true := by simp; omega
          have HE := Lib.hid (show rightZ i = 1 by rw [HR.out]; rw [if_neg (by omega), if_neg (by omega)]; rw [if_pos (by omega)])
          go_enter Tryd.func32, Tryd.ntmps32
          go_wp2_with (first
            | (go_at_call 47; go_must (refine (HC.out _ HT1.out).mono ?_; rintro e w' ⟨rfl, rfl⟩))
            | (go_at_call 48; go_must (refine (HI.out _ HT1.out).mono ?_; rintro e w1 ⟨rfl, hb⟩; unfold infV; have HB1 := Lib.hid (HB.out.on hb); have c1 := HB1.out.c0; have c2 := HB1.out.c1; have c3 := HB1.out.c2; have c4 := HB1.out.c3; clear hb))
            | (go_at_call 49; go_must (refine (HN.out _).mono ?_; rintro e w2 ⟨rfl, hb⟩; have HB2 := Lib.hid (HB1.out.on hb); clear hb)))
          go_ret
          exact ret_below HE.out.symm HB1.out.2
  · have HE := Lib.hid (show rightZ i = k by unfold rightZ; rw [← hk, if_pos k0])
    have dk : ((k : Int) != 0) = true := by simp; omega
    clear hk
    go_enter Tryd.func32, Tryd.ntmps32
    go_wp2_with (go_at_call 47; go_must (refine (HC.out _ HT1.out).mono ?_; rintro e w' ⟨rfl, rfl⟩))
    go_ret
    exact ret_below HE.out.symm HB.out.2
end Go.Proofs.YtdgokeijhgoleaaDoor
