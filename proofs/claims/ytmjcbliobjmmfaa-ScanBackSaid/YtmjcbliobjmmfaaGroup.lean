/- creelref02.Group: the groups of seven bits, off a list of 64 bits. -/
import Derived.Test.YtmjcbliobjmmfaaBitsOf
namespace Go.Proofs.Ytmjcbliobjmmfaa
open Go.RowKit

theorem grp_get (x : Int) {n k : Nat} (h : k < n) : (grp x n)[k]? = some (x / 128 ^ k % 128 + if k + 1 < n then 128 else 0) := by simp [grp, h]
theorem grp_take (x : Int) {n k : Nat} (h : k < n) : (grp x n).take (k + 1) = (grp x n).take k ++ [x / 128 ^ k % 128 + if k + 1 < n then 128 else 0] := by
  have hk : k < (grp x n).length := by rw [grp_length]; exact h
  rw [List.take_succ_eq_append_getElem hk]
  congr 2
  have := grp_get x h
  rw [List.getElem?_eq_getElem hk] at this
  injection this

theorem group_next {x e : Int} {k m : Nat} (hm : m < 7) (he : x / 2 ^ (7 * k + m) % 2 ^ (7 - m) = e) :
    (∃ m' : Nat, m' < 7 ∧ Value.int .i64 ((m : Int) - 1) = .int .i64 m' ∧ Value.int .i64 e = .int .i64 (x / 2 ^ (7 * k + (m' + 1)) % 2 ^ (7 - (m' + 1)))) ∨
      (Value.int .i64 ((m : Int) - 1) = .int .i64 (-1) ∧ Value.int .i64 e = .int .i64 (x / 2 ^ (7 * k + 0) % 2 ^ (7 - 0))) := by
  rcases m with _ | m
  · exact .inr ⟨by simp, by rw [he]⟩
  · exact .inl ⟨m, by omega, by go_num, by rw [he]⟩

set_option maxHeartbeats 800000 in
theorem group_any (x : Int) (n : Nat) (t : Bool) (A : Option Addr) (cap B : Nat) (w : World) (hl : Lies w B A (bools x 64)) (hB : B ≤ w.heap.size) (h64 : ∀ j, 64 ≤ j → bit x j = t) (hn : n ≤ 10) :
    Calls Try.prog 45 #[.slice A 64 cap, .int .i64 n, .bool t] w (Bytes (grp x n) w) := by
  obtain ⟨i0, hi0, hz0, hz1, hz2⟩ := info_parts infoB
  have HL := Lib.hid hl
  have H64 := Lib.hid h64
  clear hl h64
  go_enter Try.func45, Try.ntmps45
  go_wp2
  go_loopw [7, 8] (fun b i wr => ∃ k : Nat, k ≤ n ∧ i = .int .i64 k ∧ wr.ownsRow w.heap.size 5 1 b k (cells ((grp x n).take k)) ∧ Below w.heap.size w wr) (fun _ i _ => n - (intOf i).toNat)
  case atStart => exact ⟨0, by omega, rfl, World.ownsRow_nil _ _ _ _, Below.refl _ _⟩
  case round =>
    obtain ⟨k, hk, rfl, hown, hbe⟩ := hrel
    have hsz := hbe.size
    obtain ⟨wo, rfl⟩ : ∃ wo : World, wo = wr := ⟨_, rfl⟩
    have HL2 := Lib.hid (HL.out.below hbe hB)
    have HO := Lib.hid hown
    have HBE := Lib.hid hbe
    clear hown hbe
    by_cases hlt : k < n
    · go_wp2
      go_loop [9, 10] (fun c d => (∃ m : Nat, m < 7 ∧ d = .int .i64 m ∧ c = .int .i64 (x / 2 ^ (7 * k + (m + 1)) % 2 ^ (7 - (m + 1)))) ∨ (d = .int .i64 (-1) ∧ c = .int .i64 (x / 2 ^ (7 * k + 0) % 2 ^ (7 - 0)))) (fun _ d => (intOf d + 1).toNat)
      case atStart => exact .inl ⟨6, by omega, rfl, by simp⟩
      case round =>
        rcases hrel with ⟨m, hm, rfl, rfl⟩ | ⟨rfl, rfl⟩
        · have hst := group_step x (7 * k) m hm
          have hbd := group_bd x (7 * k) (m + 1) (by omega)
          generalize x / 2 ^ (7 * k + (m + 1)) % 2 ^ (7 - (m + 1)) = c at *
          obtain ⟨c0, c1⟩ := hbd
          have HST := Lib.hid hst
          clear hst
          have htn : (7 * (k : Int) + (m : Int)).toNat = 7 * k + m := by omega
          by_cases hj : 7 * k + m < 64
          · obtain ⟨b, off, rfl, hb, hc⟩ := HL2.out _ _ (bools_get x hj)
            have hj' : 7 * (k : Int) + m < 64 := by omega
            generalize hbt : bit x (7 * k + m) = bt at *
            have HBT := Lib.hid hbt
            clear hbt
            cases bt
            all_goals go_wp2
            all_goals
              go_round
              case rel => exact group_next hm (by rw [HST.out]; simp)
              case measure => simp [intOf]
          · have hj' : ¬ 7 * (k : Int) + m < 64 := by omega
            have HBT := Lib.hid (H64.out (7 * k + m) (by omega))
            cases t
            all_goals go_wp2
            all_goals
              go_round
              case rel => exact group_next hm (by rw [HST.out, HBT.out]; simp)
              case measure => simp [intOf]
        · have e7 : x / 2 ^ (7 * k + 0) % 2 ^ (7 - 0) = x / 128 ^ k % 128 := by rw [Nat.add_zero, pow7]; rfl
          rw [e7]
          have hbd : 0 ≤ x / 128 ^ k % 128 ∧ x / 128 ^ k % 128 ≤ 127 := by omega
          have htk := grp_take x hlt
          clear e7
          generalize x / 128 ^ k % 128 = c at *
          obtain ⟨c0, c1⟩ := hbd
          have HT := Lib.hid htk
          clear htk
          by_cases hla : k + 1 < n
          · have hla' : (k : Int) < n - 1 := by omega
            go_wp2_with (at_builtin; refine wpList_append_own _ rfl _ _ _ rfl w.heap.size 5 i0 _ 1 1 Try.underlying32 hi0 hz0 hz1 hz2 rfl (by omega) _ _ _ rfl (HO.out.alloc _) ⟨wo.heap.size, 0, none⟩ 1 1 [.int .u8 (c + 128)] rfl rfl (World.news_of_block (cs := #[.int .u8 (c + 128)]) (t := 5) (fr := (0, 0)) (heap_alloc_new wo _)) (by simp [Value.oneCell']) (by unfold maxLen; omega) (by omega) (by simp; omega) ?_; intro v' w2 hown2 hgrow2 _; have HO2 := Lib.hid hown2; have HG2 := Lib.hid hgrow2; clear hown2 hgrow2)
            go_roundw
            case rel => exact ⟨k + 1, by omega, by go_num, by have h := HT.out; rw [if_pos hla] at h; rw [h, cells_snoc]; exact HO2.out, below_append HBE.out HO.out HG2.out⟩
            case measure => simp [intOf]; omega
          · have hla' : ¬ (k : Int) < n - 1 := by omega
            go_wp2_with (at_builtin; refine wpList_append_own _ rfl _ _ _ rfl w.heap.size 5 i0 _ 1 1 Try.underlying32 hi0 hz0 hz1 hz2 rfl (by omega) _ _ _ rfl (HO.out.alloc _) ⟨wo.heap.size, 0, none⟩ 1 1 [.int .u8 (c)] rfl rfl (World.news_of_block (cs := #[.int .u8 (c)]) (t := 5) (fr := (0, 0)) (heap_alloc_new wo _)) (by simp [Value.oneCell']) (by unfold maxLen; omega) (by omega) (by simp; omega) ?_; intro v' w2 hown2 hgrow2 _; have HO2 := Lib.hid hown2; have HG2 := Lib.hid hgrow2; clear hown2 hgrow2)
            go_roundw
            case rel => exact ⟨k + 1, by omega, by go_num, by have h := HT.out; rw [if_neg hla, Int.add_zero] at h; rw [h, cells_snoc]; exact HO2.out, below_append HBE.out HO.out HG2.out⟩
            case measure => simp [intOf]; omega
    · obtain rfl : k = n := by omega
      have hfull := HO.out
      rw [List.take_of_length_le (by rw [grp_length]; omega)] at hfull
      have HF := Lib.hid (bytes_own hfull (grp_length _ _) HBE.out)
      clear hfull
      go_wp2
      go_ret
      exact HF.out
end Go.Proofs.Ytmjcbliobjmmfaa

