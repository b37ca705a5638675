/- typesOf (made by gen/genTypes.py), float, Check, Of. -/
import Derived.Test.YtfimjjeabbbciaaDoorAcc
namespace Go.Proofs.YtfimjjeabbbciaaDoor
open Go.RowKit

set_option maxRecDepth 100000 in
theorem types_0_63 (n : Nat) (w : World) (h : n = 63) : Calls Tryd.prog 20 #[.int .u8 n] w (TypesPost n w) := by
  have HE := Lib.hid (show typesR n = _ by unfold typesR; rw [if_pos (by omega)])
  have t0a : ((n : Int) == 63) = true := by simp; omega
  clear h
  go_enter Tryd.func20, Tryd.ntmps20
  go_wp2_with (go_at_call 25; refine (between_any _ _ _ _).mono ?_; rintro e w' ⟨rfl, rfl⟩)
  go_ret2
  exact ⟨ret_two HE.out rfl rfl, Below.refl _ _⟩
set_option maxRecDepth 100000 in
theorem types_0_65 (n : Nat) (w : World) (h : n = 65) : Calls Tryd.prog 20 #[.int .u8 n] w (TypesPost n w) := by
  have HE := Lib.hid (show typesR n = _ by unfold typesR; rw [if_pos (by omega)])
  have t0a : ((n : Int) == 63) = false := by simp; omega
  have t0b : ((n : Int) == 65) = true := by simp; omega
  clear h
  go_enter Tryd.func20, Tryd.ntmps20
  go_wp2_with (go_at_call 25; refine (between_any _ _ _ _).mono ?_; rintro e w' ⟨rfl, rfl⟩)
  go_ret2
  exact ⟨ret_two HE.out rfl rfl, Below.refl _ _⟩
set_option maxRecDepth 100000 in
theorem types_1_64 (n : Nat) (w : World) (h : n = 64) : Calls Tryd.prog 20 #[.int .u8 n] w (TypesPost n w) := by
  have HE := Lib.hid (show typesR n = _ by unfold typesR; rw [if_neg (by omega), if_pos (by omega)])
  have t0a : ((n : Int) == 63) = false := by simp; omega
  have t0b : ((n : Int) == 65) = false := by simp; omega
  have t1a : ((n : Int) == 64) = true := by simp; omega
  clear h
  go_enter Tryd.func20, Tryd.ntmps20
  go_wp2_with (go_at_call 25; refine (between_any _ _ _ _).mono ?_; rintro e w' ⟨rfl, rfl⟩)
  go_ret2
  exact ⟨ret_two HE.out rfl rfl, Below.refl _ _⟩
set_option maxRecDepth 100000 in
theorem types_2_66 (n : Nat) (w : World) (h : n = 66) : Calls Tryd.prog 20 #[.int .u8 n] w (TypesPost n w) := by
  have HE := Lib.hid (show typesR n = _ by unfold typesR; rw [if_neg (by omega), if_neg (by omega), if_pos (by omega)])
  have t0a : ((n : Int) == 63) = false := by simp; omega
  have t0b : ((n : Int) == 65) = false := by simp; omega
  have t1a : ((n : Int) == 64) = false := by simp; omega
  have t2a : ((n : Int) == 66) = true := by simp; omega
  clear h
  go_enter Tryd.func20, Tryd.ntmps20
  go_wp2_with (go_at_call 25; refine (between_any _ _ _ _).mono ?_; rintro e w' ⟨rfl, rfl⟩)
  go_ret2
  exact ⟨ret_two HE.out rfl rfl, Below.refl _ _⟩
set_option maxRecDepth 100000 in
theorem types_3_69 (n : Nat) (w : World) (h : n = 69) : Calls Tryd.prog 20 #[.int .u8 n] w (TypesPost n w) := by
  have HE := Lib.hid (show typesR n = _ by unfold typesR; rw [if_neg (by omega), if_neg (by omega), if_neg (by omega), if_pos (by omega)])
  have t0a : ((n : Int) == 63) = false := by simp; omega
  have t0b : ((n : Int) == 65) = false := by simp; omega
  have t1a : ((n : Int) == 64) = false := by simp; omega
  have t2a : ((n : Int) == 66) = false := by simp; omega
  have t3a : ((n : Int) == 69) = true := by simp; omega
  clear h
  go_enter Tryd.func20, Tryd.ntmps20
  go_wp2_with (go_at_call 25; refine (between_any _ _ _ _).mono ?_; rintro e w' ⟨rfl, rfl⟩)
  go_ret2
  exact ⟨ret_two HE.out rfl rfl, Below.refl _ _⟩
set_option maxRecDepth 100000 in
theorem types_4 (n : Nat) (w : World) (h : 70 ≤ n ∧ n ≤ 79) : Calls Tryd.prog 20 #[.int .u8 n] w (TypesPost n w) := by
  have HE := Lib.hid (show typesR n = _ by unfold typesR; rw [if_neg (by omega), if_neg (by omega), if_neg (by omega), if_neg (by omega), if_pos (by unfold between; simp; omega)])
  have t0a : ((n : Int) == 63) = false := by simp; omega
  have t0b : ((n : Int) == 65) = false := by simp; omega
  have t1a : ((n : Int) == 64) = false := by simp; omega
  have t2a : ((n : Int) == 66) = false := by simp; omega
  have t3a : ((n : Int) == 69) = false := by simp; omega
  have t4 : between n 70 79 = true := by unfold between; simp; omega
  clear h
  go_enter Tryd.func20, Tryd.ntmps20
  go_wp2_with (go_at_call 25; refine (between_any _ _ _ _).mono ?_; rintro e w' ⟨rfl, rfl⟩)
  go_ret2
  exact ⟨ret_two HE.out rfl rfl, Below.refl _ _⟩
set_option maxRecDepth 100000 in
theorem types_5_80 (n : Nat) (w : World) (h : n = 80) : Calls Tryd.prog 20 #[.int .u8 n] w (TypesPost n w) := by
  have HE := Lib.hid (show typesR n = _ by unfold typesR; rw [if_neg (by omega), if_neg (by omega), if_neg (by omega), if_neg (by omega), if_neg (by unfold between; simp; omega), if_pos (by omega)])
  have t0a : ((n : Int) == 63) = false := by simp; omega
  have t0b : ((n : Int) == 65) = false := by simp; omega
  have t1a : ((n : Int) == 64) = false := by simp; omega
  have t2a : ((n : Int) == 66) = false := by simp; omega
  have t3a : ((n : Int) == 69) = false := by simp; omega
  have t4 : between n 70 79 = false := by unfold between; simp; omega
  have t5a : ((n : Int) == 80) = true := by simp; omega
  clear h
  go_enter Tryd.func20, Tryd.ntmps20
  go_wp2_with (go_at_call 25; refine (between_any _ _ _ _).mono ?_; rintro e w' ⟨rfl, rfl⟩)
  go_ret2
  exact ⟨ret_two HE.out rfl rfl, Below.refl _ _⟩
set_option maxRecDepth 100000 in
theorem types_6 (n : Nat) (w : World) (h : 81 ≤ n ∧ n ≤ 90) : Calls Tryd.prog 20 #[.int .u8 n] w (TypesPost n w) := by
  have HE := Lib.hid (show typesR n = _ by unfold typesR; rw [if_neg (by omega), if_neg (by omega), if_neg (by omega), if_neg (by omega), if_neg (by unfold between; simp; omega), if_neg (by omega), if_pos (by unfold between; simp; omega)])
  have t0a : ((n : Int) == 63) = false := by simp; omega
  have t0b : ((n : Int) == 65) = false := by simp; omega
  have t1a : ((n : Int) == 64) = false := by simp; omega
  have t2a : ((n : Int) == 66) = false := by simp; omega
  have t3a : ((n : Int) == 69) = false := by simp; omega
  have t4 : between n 70 79 = false := by unfold between; simp; omega
  have t5a : ((n : Int) == 80) = false := by simp; omega
  have t6 : between n 81 90 = true := by unfold between; simp; omega
  clear h
  go_enter Tryd.func20, Tryd.ntmps20
  go_wp2_with (go_at_call 25; refine (between_any _ _ _ _).mono ?_; rintro e w' ⟨rfl, rfl⟩)
  go_ret2
  exact ⟨ret_two HE.out rfl rfl, Below.refl _ _⟩
set_option maxRecDepth 100000 in
theorem types_7 (n : Nat) (w : World) (h : 103 ≤ n ∧ n ≤ 105) : Calls Tryd.prog 20 #[.int .u8 n] w (TypesPost n w) := by
  have HE := Lib.hid (show typesR n = _ by unfold typesR; rw [if_neg (by omega), if_neg (by omega), if_neg (by omega), if_neg (by omega), if_neg (by unfold between; simp; omega), if_neg (by omega), if_neg (by unfold between; simp; omega), if_pos (by unfold between; simp; omega)])
  have t0a : ((n : Int) == 63) = false := by simp; omega
  have t0b : ((n : Int) == 65) = false := by simp; omega
  have t1a : ((n : Int) == 64) = false := by simp; omega
  have t2a : ((n : Int) == 66) = false := by simp; omega
  have t3a : ((n : Int) == 69) = false := by simp; omega
  have t4 : between n 70 79 = false := by unfold between; simp; omega
  have t5a : ((n : Int) == 80) = false := by simp; omega
  have t6 : between n 81 90 = false := by unfold between; simp; omega
  have t7 : between n 103 105 = true := by unfold between; simp; omega
  clear h
  go_enter Tryd.func20, Tryd.ntmps20
  go_wp2_with (go_at_call 25; refine (between_any _ _ _ _).mono ?_; rintro e w' ⟨rfl, rfl⟩)
  go_ret2
  exact ⟨ret_two HE.out rfl rfl, Below.refl _ _⟩
set_option maxRecDepth 100000 in
theorem types_8 (n : Nat) (w : World) (h : 106 ≤ n ∧ n ≤ 120) : Calls Tryd.prog 20 #[.int .u8 n] w (TypesPost n w) := by
  have HE := Lib.hid (show typesR n = _ by unfold typesR; rw [if_neg (by omega), if_neg (by omega), if_neg (by omega), if_neg (by omega), if_neg (by unfold between; simp; omega), if_neg (by omega), if_neg (by unfold between; simp; omega), if_neg (by unfold between; simp; omega), if_pos (by unfold between; simp; omega)])
  have t0a : ((n : Int) == 63) = false := by simp; omega
  have t0b : ((n : Int) == 65) = false := by simp; omega
  have t1a : ((n : Int) == 64) = false := by simp; omega
  have t2a : ((n : Int) == 66) = false := by simp; omega
  have t3a : ((n : Int) == 69) = false := by simp; omega
  have t4 : between n 70 79 = false := by unfold between; simp; omega
  have t5a : ((n : Int) == 80) = false := by simp; omega
  have t6 : between n 81 90 = false := by unfold between; simp; omega
  have t7 : between n 103 105 = false := by unfold between; simp; omega
  have t8 : between n 106 120 = true := by unfold between; simp; omega
  clear h
  go_enter Tryd.func20, Tryd.ntmps20
  go_wp2_with (go_at_call 25; refine (between_any _ _ _ _).mono ?_; rintro e w' ⟨rfl, rfl⟩)
  go_ret2
  exact ⟨ret_two HE.out rfl rfl, Below.refl _ _⟩
set_option maxRecDepth 100000 in
theorem types_9 (n : Nat) (w : World) (h : 121 ≤ n ∧ n ≤ 123) : Calls Tryd.prog 20 #[.int .u8 n] w (TypesPost n w) := by
  have HE := Lib.hid (show typesR n = _ by unfold typesR; rw [if_neg (by omega), if_neg (by omega), if_neg (by omega), if_neg (by omega), if_neg (by unfold between; simp; omega), if_neg (by omega), if_neg (by unfold between; simp; omega), if_neg (by unfold between; simp; omega), if_neg (by unfold between; simp; omega), if_pos (by unfold between; simp; omega)])
  have t0a : ((n : Int) == 63) = false := by simp; omega
  have t0b : ((n : Int) == 65) = false := by simp; omega
  have t1a : ((n : Int) == 64) = false := by simp; omega
  have t2a : ((n : Int) == 66) = false := by simp; omega
  have t3a : ((n : Int) == 69) = false := by simp; omega
  have t4 : between n 70 79 = false := by unfold between; simp; omega
  have t5a : ((n : Int) == 80) = false := by simp; omega
  have t6 : between n 81 90 = false := by unfold between; simp; omega
  have t7 : between n 103 105 = false := by unfold between; simp; omega
  have t8 : between n 106 120 = false := by unfold between; simp; omega
  have t9 : between n 121 123 = true := by unfold between; simp; omega
  clear h
  go_enter Tryd.func20, Tryd.ntmps20
  go_wp2_with (go_at_call 25; refine (between_any _ _ _ _).mono ?_; rintro e w' ⟨rfl, rfl⟩)
  go_ret2
  exact ⟨ret_two HE.out rfl rfl, Below.refl _ _⟩
set_option maxRecDepth 100000 in
theorem types_10 (n : Nat) (w : World) (h : 124 ≤ n ∧ n ≤ 138) : Calls Tryd.prog 20 #[.int .u8 n] w (TypesPost n w) := by
  have HE := Lib.hid (show typesR n = _ by unfold typesR; rw [if_neg (by omega), if_neg (by omega), if_neg (by omega), if_neg (by omega), if_neg (by unfold between; simp; omega), if_neg (by omega), if_neg (by unfold between; simp; omega), if_neg (by unfold between; simp; omega), if_neg (by unfold between; simp; omega), if_neg (by unfold between; simp; omega), if_pos (by unfold between; simp; omega)])
  have t0a : ((n : Int) == 63) = false := by simp; omega
  have t0b : ((n : Int) == 65) = false := by simp; omega
  have t1a : ((n : Int) == 64) = false := by simp; omega
  have t2a : ((n : Int) == 66) = false := by simp; omega
  have t3a : ((n : Int) == 69) = false := by simp; omega
  have t4 : between n 70 79 = false := by unfold between; simp; omega
  have t5a : ((n : Int) == 80) = false := by simp; omega
  have t6 : between n 81 90 = false := by unfold between; simp; omega
  have t7 : between n 103 105 = false := by unfold between; simp; omega
  have t8 : between n 106 120 = false := by unfold between; simp; omega
  have t9 : between n 121 123 = false := by unfold between; simp; omega
  have t10 : between n 124 138 = true := by unfold between; simp; omega
  clear h
  go_enter Tryd.func20, Tryd.ntmps20
  go_wp2_with (go_at_call 25; refine (between_any _ _ _ _).mono ?_; rintro e w' ⟨rfl, rfl⟩)
  go_ret2
  exact ⟨ret_two HE.out rfl rfl, Below.refl _ _⟩
set_option maxRecDepth 100000 in
theorem types_11_167 (n : Nat) (w : World) (h : n = 167) : Calls Tryd.prog 20 #[.int .u8 n] w (TypesPost n w) := by
  have HE := Lib.hid (show typesR n = _ by unfold typesR; rw [if_neg (by omega), if_neg (by omega), if_neg (by omega), if_neg (by omega), if_neg (by unfold between; simp; omega), if_neg (by omega), if_neg (by unfold between; simp; omega), if_neg (by unfold between; simp; omega), if_neg (by unfold between; simp; omega), if_neg (by unfold between; simp; omega), if_neg (by unfold between; simp; omega), if_pos (by omega)])
  have t0a : ((n : Int) == 63) = false := by simp; omega
  have t0b : ((n : Int) == 65) = false := by simp; omega
  have t1a : ((n : Int) == 64) = false := by simp; omega
  have t2a : ((n : Int) == 66) = false := by simp; omega
  have t3a : ((n : Int) == 69) = false := by simp; omega
  have t4 : between n 70 79 = false := by unfold between; simp; omega
  have t5a : ((n : Int) == 80) = false := by simp; omega
  have t6 : between n 81 90 = false := by unfold between; simp; omega
  have t7 : between n 103 105 = false := by unfold between; simp; omega
  have t8 : between n 106 120 = false := by unfold between; simp; omega
  have t9 : between n 121 123 = false := by unfold between; simp; omega
  have t10 : between n 124 138 = false := by unfold between; simp; omega
  have t11a : ((n : Int) == 167) = true := by simp; omega
  clear h
  go_enter Tryd.func20, Tryd.ntmps20
  go_wp2_with (go_at_call 25; refine (between_any _ _ _ _).mono ?_; rintro e w' ⟨rfl, rfl⟩)
  go_ret2
  exact ⟨ret_two HE.out rfl rfl, Below.refl _ _⟩
set_option maxRecDepth 100000 in
theorem types_12_172 (n : Nat) (w : World) (h : n = 172) : Calls Tryd.prog 20 #[.int .u8 n] w (TypesPost n w) := by
  have HE := Lib.hid (show typesR n = _ by unfold typesR; rw [if_neg (by omega), if_neg (by omega), if_neg (by omega), if_neg (by omega), if_neg (by unfold between; simp; omega), if_neg (by omega), if_neg (by unfold between; simp; omega), if_neg (by unfold between; simp; omega), if_neg (by unfold between; simp; omega), if_neg (by unfold between; simp; omega), if_neg (by unfold between; simp; omega), if_neg (by omega), if_pos (by omega)])
  have t0a : ((n : Int) == 63) = false := by simp; omega
  have t0b : ((n : Int) == 65) = false := by simp; omega
  have t1a : ((n : Int) == 64) = false := by simp; omega
  have t2a : ((n : Int) == 66) = false := by simp; omega
  have t3a : ((n : Int) == 69) = false := by simp; omega
  have t4 : between n 70 79 = false := by unfold between; simp; omega
  have t5a : ((n : Int) == 80) = false := by simp; omega
  have t6 : between n 81 90 = false := by unfold between; simp; omega
  have t7 : between n 103 105 = false := by unfold between; simp; omega
  have t8 : between n 106 120 = false := by unfold between; simp; omega
  have t9 : between n 121 123 = false := by unfold between; simp; omega
  have t10 : between n 124 138 = false := by unfold between; simp; omega
  have t11a : ((n : Int) == 167) = false := by simp; omega
  have t12a : ((n : Int) == 172) = true := by simp; omega
  clear h
  go_enter Tryd.func20, Tryd.ntmps20
  go_wp2_with (go_at_call 25; refine (between_any _ _ _ _).mono ?_; rintro e w' ⟨rfl, rfl⟩)
  go_ret2
  exact ⟨ret_two HE.out rfl rfl, Below.refl _ _⟩
set_option maxRecDepth 100000 in
theorem types_12_173 (n : Nat) (w : World) (h : n = 173) : Calls Tryd.prog 20 #[.int .u8 n] w (TypesPost n w) := by
  have HE := Lib.hid (show typesR n = _ by unfold typesR; rw [if_neg (by omega), if_neg (by omega), if_neg (by omega), if_neg (by omega), if_neg (by unfold between; simp; omega), if_neg (by omega), if_neg (by unfold between; simp; omega), if_neg (by unfold between; simp; omega), if_neg (by unfold between; simp; omega), if_neg (by unfold between; simp; omega), if_neg (by unfold between; simp; omega), if_neg (by omega), if_pos (by omega)])
  have t0a : ((n : Int) == 63) = false := by simp; omega
  have t0b : ((n : Int) == 65) = false := by simp; omega
  have t1a : ((n : Int) == 64) = false := by simp; omega
  have t2a : ((n : Int) == 66) = false := by simp; omega
  have t3a : ((n : Int) == 69) = false := by simp; omega
  have t4 : between n 70 79 = false := by unfold between; simp; omega
  have t5a : ((n : Int) == 80) = false := by simp; omega
  have t6 : between n 81 90 = false := by unfold between; simp; omega
  have t7 : between n 103 105 = false := by unfold between; simp; omega
  have t8 : between n 106 120 = false := by unfold between; simp; omega
  have t9 : between n 121 123 = false := by unfold between; simp; omega
  have t10 : between n 124 138 = false := by unfold between; simp; omega
  have t11a : ((n : Int) == 167) = false := by simp; omega
  have t12a : ((n : Int) == 172) = false := by simp; omega
  have t12b : ((n : Int) == 173) = true := by simp; omega
  clear h
  go_enter Tryd.func20, Tryd.ntmps20
  go_wp2_with (go_at_call 25; refine (between_any _ _ _ _).mono ?_; rintro e w' ⟨rfl, rfl⟩)
  go_ret2
  exact ⟨ret_two HE.out rfl rfl, Below.refl _ _⟩
set_option maxRecDepth 100000 in
theorem types_else (n : Nat) (w : World) (hT : Tabs w) (hn : n ≤ 255) (h0 : ¬ (n = 63 ∨ n = 65)) (h1 : ¬ (n = 64)) (h2 : ¬ (n = 66)) (h3 : ¬ (n = 69)) (h4 : ¬ (70 ≤ n ∧ n ≤ 79)) (h5 : ¬ (n = 80)) (h6 : ¬ (81 ≤ n ∧ n ≤ 90)) (h7 : ¬ (103 ≤ n ∧ n ≤ 105)) (h8 : ¬ (106 ≤ n ∧ n ≤ 120)) (h9 : ¬ (121 ≤ n ∧ n ≤ 123)) (h10 : ¬ (124 ≤ n ∧ n ≤ 138)) (h11 : ¬ (n = 167)) (h12 : ¬ (n = 172 ∨ n = 173)) : Calls Tryd.prog 20 #[.int .u8 n] w (TypesPost n w) := by
  have HE := Lib.hid (show typesR n = _ by unfold typesR; rw [if_neg (by omega), if_neg (by omega), if_neg (by omega), if_neg (by omega), if_neg (by unfold between; simp; omega), if_neg (by omega), if_neg (by unfold between; simp; omega), if_neg (by unfold between; simp; omega), if_neg (by unfold between; simp; omega), if_neg (by unfold between; simp; omega), if_neg (by unfold between; simp; omega), if_neg (by omega), if_neg (by omega)])
  have t0a : ((n : Int) == 63) = false := by simp; omega
  have t0b : ((n : Int) == 65) = false := by simp; omega
  have t1a : ((n : Int) == 64) = false := by simp; omega
  have t2a : ((n : Int) == 66) = false := by simp; omega
  have t3a : ((n : Int) == 69) = false := by simp; omega
  have t4 : between n 70 79 = false := by unfold between; simp; omega
  have t5a : ((n : Int) == 80) = false := by simp; omega
  have t6 : between n 81 90 = false := by unfold between; simp; omega
  have t7 : between n 103 105 = false := by unfold between; simp; omega
  have t8 : between n 106 120 = false := by unfold between; simp; omega
  have t9 : between n 121 123 = false := by unfold between; simp; omega
  have t10 : between n 124 138 = false := by unfold between; simp; omega
  have t11a : ((n : Int) == 167) = false := by simp; omega
  have t12a : ((n : Int) == 172) = false := by simp; omega
  have t12b : ((n : Int) == 173) = false := by simp; omega
  clear h0 h1 h2 h3 h4 h5 h6 h7 h8 h9 h10 h11 h12
  have HT := Lib.hid hT
  clear hT
  go_enter Tryd.func20, Tryd.ntmps20
  go_wp2_with (first | (go_at_call 25; refine (between_any _ _ _ _).mono ?_; rintro e w' ⟨rfl, rfl⟩) | (go_at_call 26; go_must (refine (accTypes_any n _ HT.out hn).mono ?_; rintro e w' ⟨rfl, hb⟩; have HB := Lib.hid hb; clear hb)))
  go_ret2
  exact ⟨ret_two HE.out rfl rfl, HB.out⟩
theorem types_any (n : Nat) (w : World) (hT : Tabs w) (hn : n ≤ 255) : Calls Tryd.prog 20 #[.int .u8 n] w (TypesPost n w) := by
  by_cases h0_63 : n = 63
  · exact types_0_63 n w h0_63
  by_cases h0_65 : n = 65
  · exact types_0_65 n w h0_65
  by_cases h1_64 : n = 64
  · exact types_1_64 n w h1_64
  by_cases h2_66 : n = 66
  · exact types_2_66 n w h2_66
  by_cases h3_69 : n = 69
  · exact types_3_69 n w h3_69
  by_cases h4 : 70 ≤ n ∧ n ≤ 79
  · exact types_4 n w h4
  by_cases h5_80 : n = 80
  · exact types_5_80 n w h5_80
  by_cases h6 : 81 ≤ n ∧ n ≤ 90
  · exact types_6 n w h6
  by_cases h7 : 103 ≤ n ∧ n ≤ 105
  · exact types_7 n w h7
  by_cases h8 : 106 ≤ n ∧ n ≤ 120
  · exact types_8 n w h8
  by_cases h9 : 121 ≤ n ∧ n ≤ 123
  · exact types_9 n w h9
  by_cases h10 : 124 ≤ n ∧ n ≤ 138
  · exact types_10 n w h10
  by_cases h11_167 : n = 167
  · exact types_11_167 n w h11_167
  by_cases h12_172 : n = 172
  · exact types_12_172 n w h12_172
  by_cases h12_173 : n = 173
  · exact types_12_173 n w h12_173
  exact types_else n w hT hn (by omega) (by omega) (by omega) (by omega) (by omega) (by omega) (by omega) (by omega) (by omega) (by omega) (by omega) (by omega) (by omega)

theorem float_const (n : Nat) (w : World) (h : n = 42 ∨ n = 43 ∨ n = 56 ∨ n = 57 ∨ n = 67 ∨ n = 68) : Calls Tryd.prog 23 #[.int .u8 n] w fun e w' => e = .returned (.bool (floatR n)) ∧ w = w' := by
  rcases h with rfl | rfl | rfl | rfl | rfl | rfl
  all_goals
    go_enter Tryd.func23, Tryd.ntmps23
    go_wp2
    go_ret
    exact ⟨rfl, rfl⟩
theorem float_else (n : Nat) (w : World) (h : ¬ (n = 42 ∨ n = 43 ∨ n = 56 ∨ n = 57 ∨ n = 67 ∨ n = 68)) : Calls Tryd.prog 23 #[.int .u8 n] w fun e w' => e = .returned (.bool (floatR n)) ∧ w = w' := by
  have d42 : ((n : Int) == 42) = false := by simp; omega
  have d43 : ((n : Int) == 43) = false := by simp; omega
  have d56 : ((n : Int) == 56) = false := by simp; omega
  have d57 : ((n : Int) == 57) = false := by simp; omega
  have d67 : ((n : Int) == 67) = false := by simp; omega
  have d68 : ((n : Int) == 68) = false := by simp; omega
  have HE := Lib.hid (show floatR n = (between n 91 102 || between n 139 166 || between n 168 171 || between n 174 191) by unfold floatR; rw [decide_eq_false h]; rfl)
  clear h
  by_cases b1 : between n 91 102 = true
  · rw [b1] at HE
    go_enter Tryd.func23, Tryd.ntmps23
    go_wp2_with (go_at_call 25; refine (between_any _ _ _ _).mono ?_; rintro e w' ⟨rfl, rfl⟩)
    go_ret
    exact ⟨ret_bool (by rw [HE.out]; rfl), rfl⟩
  · have b1 : between n 91 102 = false := by simpa using b1
    rw [b1] at HE
    by_cases b2 : between n 139 166 = true
    · rw [b2] at HE
      go_enter Tryd.func23, Tryd.ntmps23
      go_wp2_with (go_at_call 25; refine (between_any _ _ _ _).mono ?_; rintro e w' ⟨rfl, rfl⟩)
      go_ret
      exact ⟨ret_bool (by rw [HE.out]; rfl), rfl⟩
    · have b2 : between n 139 166 = false := by simpa using b2
      rw [b2] at HE
      by_cases b3 : between n 168 171 = true
      · rw [b3] at HE
        go_enter Tryd.func23, Tryd.ntmps23
        go_wp2_with (go_at_call 25; refine (between_any _ _ _ _).mono ?_; rintro e w' ⟨rfl, rfl⟩)
        go_ret
        exact ⟨ret_bool (by rw [HE.out]; rfl), rfl⟩
      · have b3 : between n 168 171 = false := by simpa using b3
        rw [b3] at HE
        go_enter Tryd.func23, Tryd.ntmps23
        go_wp2_with (go_at_call 25; refine (between_any _ _ _ _).mono ?_; rintro e w' ⟨rfl, rfl⟩)
        go_ret
        exact ⟨ret_bool (by rw [HE.out]; rfl), rfl⟩
theorem float_any (n : Nat) (w : World) : Calls Tryd.prog 23 #[.int .u8 n] w fun e w' => e = .returned (.bool (floatR n)) ∧ w = w' := by
  by_cases h : n = 42 ∨ n = 43 ∨ n = 56 ∨ n = 57 ∨ n = 67 ∨ n = 68
  · exact float_const n w h
  · exact float_else n w h

theorem check_any (n : Nat) (w : World) (hT : Tabs w) (hn : n ≤ 255) : Calls Tryd.prog 9 #[.int .u8 n] w fun e w' => e = .returned (.int .i64 (checkR n)) ∧ w = w' := by
  have HT := Lib.hid hT
  clear hT
  by_cases h : nameR n = []
  · have s1 : (S (nameR n)).toList.isEmpty = true := by rw [S_toList, h]; rfl
    by_cases hf : floatR n = true
    · have HE := Lib.hid (show checkR n = 8 by unfold checkR; rw [if_neg (by simpa using h), if_pos hf])
      clear h
      go_enter Tryd.func9, Tryd.ntmps9
      go_wp2_with (first | (go_at_call 19; go_must (refine (name_any n _ HT.out hn).mono ?_; rintro e w' ⟨rfl, rfl⟩)) | (go_at_call 23; go_must (refine (float_any n _).mono ?_; rintro e w' ⟨rfl, rfl⟩)))
      go_ret
      exact ⟨ret_int (by rw [HE.out]; rfl), rfl⟩
    · have hf : floatR n = false := by simpa using hf
      have HE := Lib.hid (show checkR n = 9 by unfold checkR; rw [if_neg (by simpa using h), if_neg (by rw [hf]; decide)])
      clear h
      go_enter Tryd.func9, Tryd.ntmps9
      go_wp2_with (first | (go_at_call 19; go_must (refine (name_any n _ HT.out hn).mono ?_; rintro e w' ⟨rfl, rfl⟩)) | (go_at_call 23; go_must (refine (float_any n _).mono ?_; rintro e w' ⟨rfl, rfl⟩)))
      go_ret
      exact ⟨ret_int (by rw [HE.out]; rfl), rfl⟩
  · have s1 : (S (nameR n)).toList.isEmpty = false := by rw [S_toList]; simpa using h
    have HE := Lib.hid (show checkR n = 0 by unfold checkR; rw [if_pos h])
    clear h
    go_enter Tryd.func9, Tryd.ntmps9
    go_wp2_with (first | (go_at_call 19; go_must (refine (name_any n _ HT.out hn).mono ?_; rintro e w' ⟨rfl, rfl⟩)) | (go_at_call 23; go_must (refine (float_any n _).mono ?_; rintro e w' ⟨rfl, rfl⟩)))
    go_ret
    exact ⟨ret_int (by rw [HE.out]; rfl), rfl⟩

/-- What Of hands back. -/
def infV (i : Inf) : Value := .agg #[.string (S i.name), .int .i64 i.imm, .string (S i.ps), .string (S i.rs), .bool i.free]
theorem of_any (n : Nat) (w : World) (hT : Tabs w) (hn : n ≤ 255) : Calls Tryd.prog 8 #[.int .u8 n] w fun e w' => e = .returned (infV (infR n)) ∧ Below w.heap.size w w' := by
  have HT := Lib.hid hT
  have HT1 := Lib.hid (fun (o : Obj) => hT.below ((Below.refl w.heap.size w).alloc (Nat.le_refl _) o))
  clear hT
  by_cases h : nameR n = []
  · have s1 : (S (nameR n)).toList.isEmpty = true := by rw [S_toList, h]; rfl
    have HE := Lib.hid (show infR n = ⟨[], 0, [], [], false⟩ by unfold infR; rw [if_pos h])
    clear h
    go_enter Tryd.func8, Tryd.ntmps8
    go_wp2_with (go_at_call 19; go_must (refine (name_any n _ (HT1.out _) hn).mono ?_; rintro e w' ⟨rfl, rfl⟩))
    exact bodyPost_ret (v := infV ⟨[], 0, [], [], false⟩) (by simp [results, Tryd.results8, go_sem]; rfl) rfl ⟨by rw [HE.out], (Below.refl _ _).alloc (Nat.le_refl _) _⟩
  · have s1 : (S (nameR n)).toList.isEmpty = false := by rw [S_toList]; simpa using h
    have HE := Lib.hid (show infR n = ⟨nameR n, immR n, (typesR n).1, (typesR n).2, freeR n⟩ by unfold infR; rw [if_neg h])
    clear h
    go_enter Tryd.func8, Tryd.ntmps8
    go_wp2_with (first | (go_at_call 19; go_must (refine (name_any n _ (HT1.out _) hn).mono ?_; rintro e w' ⟨rfl, rfl⟩)) | (go_at_call 22; go_must (refine (free_any n _ hn).mono ?_; rintro e w' ⟨rfl, rfl⟩)) | (go_at_call 20; go_must (refine (types_any n _ (HT1.out _) hn).mono ?_; rintro e w1 ⟨rfl, hb1⟩; have HB1 := Lib.hid hb1; have hz1 := hb1.size; clear hb1)) | (go_at_call 21; go_must (refine (imm_any n _ ((HT1.out _).below HB1.out) hn).mono ?_; rintro e w2 ⟨rfl, hb2⟩; have hz2 := hb2.size; have hW := Lib.hid (((Whole.made w 29 #[.string ⟨#[]⟩, .int .i64 0, .string ⟨#[]⟩, .string ⟨#[]⟩, .bool false]).below HB1.out).below hb2); have HB2 := Lib.hid hb2; clear hb2; have c0 : w2.cell? ⟨w.heap.size, 0, none⟩ = some (.string ⟨#[]⟩) := hW.out.cell 0; have c1 : w2.cell? ⟨w.heap.size, 1, none⟩ = some (.int .i64 0) := hW.out.cell 1; have c2 : w2.cell? ⟨w.heap.size, 2, none⟩ = some (.string ⟨#[]⟩) := hW.out.cell 2; have c3 : w2.cell? ⟨w.heap.size, 3, none⟩ = some (.string ⟨#[]⟩) := hW.out.cell 3; have c4 : w2.cell? ⟨w.heap.size, 4, none⟩ = some (.bool false) := hW.out.cell 4; have f0 := hW.out.frozen 0; have f1 := hW.out.frozen 1; have f2 := hW.out.frozen 2; have f3 := hW.out.frozen 3; have f4 := hW.out.frozen 4)))
    exact bodyPost_ret (v := infV ⟨nameR n, immR n, (typesR n).1, (typesR n).2, freeR n⟩) (by simp [results, Tryd.results8, go_sem, infV, c0, c1, c2, c3, c4]) rfl ⟨by rw [HE.out],
      ((((((((Below.refl _ _).alloc (Nat.le_refl _) _).trans (HB1.out.mono (by simp))).trans (HB2.out.mono (by simp at hz1; omega))).setCell (Nat.le_refl _) _).setCell (Nat.le_refl _) _).setCell (Nat.le_refl _) _).setCell (Nat.le_refl _) _).setCell (Nat.le_refl _) _⟩
end Go.Proofs.YtfimjjeabbbciaaDoor

