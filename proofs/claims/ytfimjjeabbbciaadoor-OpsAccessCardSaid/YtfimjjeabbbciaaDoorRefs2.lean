/- The reference's Types, Float, Check. -/
import Derived.Test.YtfimjjeabbbciaaDoorRefOf
namespace Go.Proofs.YtfimjjeabbbciaaDoor
open Go.RowKit

theorem letters_snoc (s : List UInt8) (k : Nat) (h : k < s.length) : lettersR (s.take (k + 1)) = lettersR (s.take k) ++ [if s[k] = 119 then 127 else 126] := by
  unfold lettersR
  rw [List.take_succ_eq_append_getElem h, List.map_append]
  rfl
theorem str_add {a b c : List UInt8} {x : ByteArray} (hx : x = S b) (h : c = a ++ b) : Value.string (S a ++ x) = .string (S c) := by rw [hx, S_append, h]
set_option maxRecDepth 100000 in
theorem letters_any (s : List UInt8) (w : World) (hs : s.length ≤ 1000) : Calls Tryd.prog 12 #[.string (S s)] w fun e w' => e = .returned (.string (S (lettersR s))) ∧ w = w' := by
  have hz : (S s).size ≤ 1000 := by rw [S_size]; exact hs
  have HS := Lib.hid (S_size s)
  go_enter Tryd.func12, Tryd.ntmps12
  go_wp2
  go_loop [3, 4] (fun out i => ∃ (k : Nat) (o : List UInt8), k ≤ (S s).size ∧ i = .int .i64 k ∧ out = .string (S o) ∧ Hid (o = lettersR (s.take k))) (fun _ i => (S s).size - (intOf i).toNat)
  case atStart => exact ⟨0, [], by omega, rfl, rfl, Lib.hid rfl⟩
  case round =>
    obtain ⟨k, o, hk, rfl, rfl, HO⟩ := hrel
    by_cases hlt : k < (S s).size
    · have hl : k < s.length := by rw [← HS.out]; exact hlt
      have hso : (S o).size ≤ 1000 := by
        rw [S_size, HO.out]; unfold lettersR; simp; omega
      have hadd : (S o).size + 1 ≤ 9223372036854775807 := by omega
      by_cases hc : s[k] = 119
      · have hq : ((((S s)[k]'hlt).toNat : Int) == 119) = true := by rw [S_get s k hlt, hc]; rfl
        have HC := Lib.hid hc
        clear hc
        go_wp2
        go_round
        case rel => exact ⟨k + 1, o ++ [127], by omega, by go_num, str_add rfl rfl, Lib.hid (by rw [letters_snoc s k hl, if_pos HC.out, HO.out])⟩
        case measure => simp [intOf]; omega
      · have hq : ((((S s)[k]'hlt).toNat : Int) == 119) = false := by
          rw [S_get s k hlt]
          simp only [beq_eq_false_iff_ne, ne_eq]
          exact fun e => hc (u8_ext (by have e2 : s[k].toNat = 119 := by exact_mod_cast e
                                        exact e2))
        have HC := Lib.hid hc
        clear hc
        go_wp2
        go_round
        case rel => exact ⟨k + 1, o ++ [126], by omega, by go_num, str_add rfl rfl, Lib.hid (by rw [letters_snoc s k hl, if_neg HC.out, HO.out])⟩
        case measure => simp [intOf]; omega
    · obtain rfl : k = (S s).size := by omega
      have HE := Lib.hid (show lettersR s = o by rw [HO.out, HS.out, List.take_length])
      go_wp2
      go_ret
      exact ⟨ret_str HE.out.symm, rfl⟩

/-- The reference's table of floats. -/
def floatArr : Array Value := (floatsL.flatMap fun p => [.int .i64 p.1, .int .i64 p.2]).toArray
theorem float_get : ∀ j, j < 7 → floatArr[2 * j]? = some (.int .i64 ((floatsL.getD j (0, 0)).1 : Nat)) ∧ floatArr[2 * j + 1]? = some (.int .i64 ((floatsL.getD j (0, 0)).2 : Nat)) := by
  intro j hj
  match j, hj with
  | 0, _ => exact ⟨rfl, rfl⟩
  | 1, _ => exact ⟨rfl, rfl⟩
  | 2, _ => exact ⟨rfl, rfl⟩
  | 3, _ => exact ⟨rfl, rfl⟩
  | 4, _ => exact ⟨rfl, rfl⟩
  | 5, _ => exact ⟨rfl, rfl⟩
  | 6, _ => exact ⟨rfl, rfl⟩
def InPair (n j : Nat) : Prop := (floatsL.getD j (0, 0)).1 ≤ n ∧ n ≤ (floatsL.getD j (0, 0)).2
theorem float_yes {n j : Nat} (hj : j < 7) (h : InPair n j) : refFloat n = true := by
  unfold refFloat
  rw [List.any_eq_true]
  refine ⟨floatsL.getD j (0, 0), ?_, decide_eq_true h⟩
  rw [List.getD, List.getElem?_eq_getElem (show j < floatsL.length from hj)]
  exact List.getElem_mem _
theorem float_no {n : Nat} (h : ∀ j, j < 7 → ¬ InPair n j) : refFloat n = false := by
  unfold refFloat
  rw [List.any_eq_false]
  intro p hp
  obtain ⟨j, hj, rfl⟩ := List.getElem_of_mem hp
  have := h j hj
  unfold InPair at this
  rw [List.getD, List.getElem?_eq_getElem hj] at this
  simpa using this
set_option maxRecDepth 100000 in
theorem refFloat_any (n : Nat) (w : World) (hn : n ≤ 255) : Calls Tryd.prog 24 #[.int .i64 n] w fun e w' => e = .returned (.bool (refFloat n)) ∧ Below w.heap.size w w' := by
  obtain ⟨b, hb⟩ : ∃ b, b = refFloat n := ⟨_, rfl⟩
  have HB := Lib.hid hb
  rw [← hb]
  clear hb
  go_enter Tryd.func24, Tryd.ntmps24
  go_wp2_with (refine Go.Great.wpList_buildSliceTo rfl 61 3 14 _ rfl _ rfl _ rfl Tryd.underlying61 floatArr (by kernel_rfl) ?_)
  obtain ⟨w1, hw1⟩ : ∃ w1, w1 = w.alloc (.cells floatArr 3) := ⟨_, rfl⟩
  have HW := Lib.hid (show Whole w1 w.heap.size 3 floatArr by rw [hw1]; exact Whole.made w _ _)
  have HL := Lib.hid (show Below w.heap.size w w1 by rw [hw1]; exact (Below.refl _ _).alloc (Nat.le_refl _) _)
  rw [← hw1]
  clear hw1
  go_loop [4] (fun i => ∃ j k : Nat, k ≤ 14 ∧ k = 2 * j ∧ i = .int .i64 k ∧ Hid (∀ q, q < j → ¬ InPair n q)) (fun i => 14 - (intOf i).toNat)
  case atStart => exact ⟨0, 0, by omega, rfl, rfl, Lib.hid (fun q hq => by omega)⟩
  case round =>
    obtain ⟨j, k, hk, hkj, rfl, HN⟩ := hrel
    by_cases hlt : k < 14
    · have hj : j < 7 := by omega
      obtain ⟨g0, g1⟩ := float_get j hj
      rw [← hkj] at g0 g1
      have c0 := (HW.out.cell k).trans g0
      have c1 := (HW.out.cell (k + 1)).trans g1
      have hp := Lib.hid (show InPair n j ↔ (floatsL.getD j (0, 0)).1 ≤ n ∧ n ≤ (floatsL.getD j (0, 0)).2 from Iff.rfl)
      obtain ⟨p, hpe⟩ : ∃ p, p = floatsL.getD j (0, 0) := ⟨_, rfl⟩
      rw [← hpe] at c0 c1 hp
      clear g0 g1 hpe
      have HK := Lib.hid hkj
      have hk1 : k + 1 < 14 := by omega
      clear hkj
      by_cases h1 : p.1 ≤ n
      · by_cases h2 : n ≤ p.2
        · have HE := Lib.hid (show b = true by rw [HB.out]; exact float_yes hj (hp.out.2 ⟨h1, h2⟩))
          go_wp2
          go_ret
          exact ⟨ret_bool HE.out.symm, HL.out⟩
        · have HNj := Lib.hid (show ¬ InPair n j from fun e => h2 (hp.out.1 e).2)
          have d2 : decide (n ≤ p.2) = false := by simpa using h2
          go_wp2
          go_round
          case rel => exact ⟨j + 1, k + 2, by omega, by have := HK.out; omega, by go_num, Lib.hid (fun q hq => by
            rcases Nat.lt_or_ge q j with g | g
            · exact HN.out q g
            · obtain rfl : q = j := by omega
              exact HNj.out)⟩
          case measure => simp [intOf]; omega
      · have HNj := Lib.hid (show ¬ InPair n j from fun e => h1 (hp.out.1 e).1)
        have d1 : decide (p.1 ≤ n) = false := by simpa using h1
        go_wp2
        go_round
        case rel => exact ⟨j + 1, k + 2, by omega, by have := HK.out; omega, by go_num, Lib.hid (fun q hq => by
          rcases Nat.lt_or_ge q j with g | g
          · exact HN.out q g
          · obtain rfl : q = j := by omega
            exact HNj.out)⟩
        case measure => simp [intOf]; omega
    · have HE := Lib.hid (show b = false by rw [HB.out]; exact float_no (fun q hq => HN.out q (by omega)))
      go_wp2
      go_ret
      exact ⟨ret_bool HE.out.symm, HL.out⟩

theorem refCheck_any (n : Nat) (w : World) (hn : n ≤ 255) : Calls Tryd.prog 10 #[.int .i64 n] w fun e w' => e = .returned (.int .i64 (refCheck n)) ∧ Below w.heap.size w w' := by
  by_cases hf : refFloat n = true
  · have HE := Lib.hid (show refCheck n = 8 by unfold refCheck; rw [if_pos hf])
    go_enter Tryd.func10, Tryd.ntmps10
    go_wp2_with (go_at_call 24; go_must (refine (refFloat_any n _ hn).mono ?_; rintro e w1 ⟨rfl, hb1⟩; have HB1 := Lib.hid hb1; clear hb1))
    go_ret
    exact ⟨ret_int (by rw [HE.out]; rfl), HB1.out⟩
  · have hf : refFloat n = false := by simpa using hf
    by_cases hr : (refR n).isSome = true
    · have HE := Lib.hid (show refCheck n = 0 by unfold refCheck; rw [if_neg (by rw [hf]; decide), if_pos hr])
      go_enter Tryd.func10, Tryd.ntmps10
      go_wp2_with (first | (go_at_call 24; go_must (refine (refFloat_any n _ hn).mono ?_; rintro e w1 ⟨rfl, hb1⟩; have HB1 := Lib.hid hb1; have hz1 := hb1.size; clear hb1)) | (go_at_call 7; go_must (refine (ref_any n _ hn).mono ?_; rintro e w2 ⟨rfl, hb2⟩; have HB2 := Lib.hid hb2; have hz2 := hb2.size; clear hb2)))
      go_ret
      exact ⟨ret_int (by rw [HE.out]; rfl), (HB1.out.trans (HB2.out.mono hz1)).alloc (by omega) _⟩
    · have hr : (refR n).isSome = false := by simpa using hr
      have HE := Lib.hid (show refCheck n = 9 by unfold refCheck; rw [if_neg (by rw [hf]; decide), if_neg (by rw [hr]; decide)])
      go_enter Tryd.func10, Tryd.ntmps10
      go_wp2_with (first | (go_at_call 24; go_must (refine (refFloat_any n _ hn).mono ?_; rintro e w1 ⟨rfl, hb1⟩; have HB1 := Lib.hid hb1; have hz1 := hb1.size; clear hb1)) | (go_at_call 7; go_must (refine (ref_any n _ hn).mono ?_; rintro e w2 ⟨rfl, hb2⟩; have HB2 := Lib.hid hb2; have hz2 := hb2.size; clear hb2)))
      go_ret
      exact ⟨ret_int (by rw [HE.out]; rfl), (HB1.out.trans (HB2.out.mono hz1)).alloc (by omega) _⟩
end Go.Proofs.YtfimjjeabbbciaaDoor

