/- creelref02.Read. -/
import Derived.Test.YtebgmfjgapmpfabGreatDoorQe03
import Derived.Laws.AppendOwnNone
namespace Go.Proofs.YtebgmfjgapmpfabGreatDoor
open Go.RowKit
set_option linter.unusedVariables false

set_option maxHeartbeats 800000 in
theorem rr_wrong (r : List Int) (A : Option Addr) (cap : Nat) (at_ n : Int) (s : Bool) (w : World) (h : n < 1 ∨ 64 < n ∨ at_ < 0 ∨ (r.length : Int) < at_) :
    Calls Tryz.prog 137 #[.slice A r.length cap, .int .i64 at_, .int .i64 n, .bool s] w fun e w' => e = .returned (.tuple #[.int .u64 0, .int .i64 0, .int .i64 1]) ∧ Below w.heap.size w w' := by
  by_cases n1 : n < 1
  · go_enter Tryz.func137, Tryz.ntmps137
    go_wp2
    go_ret3
    exact ⟨rfl, Below.refl _ _⟩
  · have m1 : 1 ≤ n := by omega
    by_cases n2 : 64 < n
    · go_enter Tryz.func137, Tryz.ntmps137
      go_wp2
      go_ret3
      exact ⟨rfl, Below.refl _ _⟩
    · have d2 : decide (64 < n) = false := by simpa using n2
      by_cases n3 : at_ < 0
      · go_enter Tryz.func137, Tryz.ntmps137
        go_wp2
        go_ret3
        exact ⟨rfl, Below.refl _ _⟩
      · have d3 : decide (at_ < 0) = false := by simpa using n3
        have n4 : (r.length : Int) < at_ := by omega
        go_enter Tryz.func137, Tryz.ntmps137
        go_wp2
        go_ret3
        exact ⟨rfl, Below.refl _ _⟩

set_option maxRecDepth 100000 in
set_option maxHeartbeats 4000000 in
theorem rr_right (r : List Int) (A : Option Addr) (cap B : Nat) (k n p : Nat) (s : Bool) (X Q E : Int) (w : World) (hl : Lies w B A (cells r)) (hB : B ≤ w.heap.size) (hb : ∀ c ∈ r, 0 ≤ c ∧ c ≤ 255) (hc : r.length ≤ cap) (hm : cap ≤ maxLen)
    (hk : k ≤ r.length) (n1 : 1 ≤ n) (n2 : n ≤ 64) (hp : Stop ((n + 6) / 7) (r.drop k) p)
    (res : (p = (n + 6) / 7 ∧ X = 0 ∧ Q = 0 ∧ E = 3) ∨ (p < (n + 6) / 7 ∧ k + p = r.length ∧ X = 0 ∧ Q = 0 ∧ E = 2) ∨
      (p < (n + 6) / 7 ∧ k + p < r.length ∧ ¬ Good s (low ((r.drop k).take (p + 1))) (7 * (p + 1)) n ∧ X = 0 ∧ Q = 0 ∧ E = 3) ∨
      (p < (n + 6) / 7 ∧ k + p < r.length ∧ Good s (low ((r.drop k).take (p + 1))) (7 * (p + 1)) n ∧ X = ext s (low ((r.drop k).take (p + 1))) (7 * (p + 1)) % 2 ^ 64 ∧ Q = k + (p + 1) ∧ E = 0)) :
    Calls Tryz.prog 137 #[.slice A r.length cap, .int .i64 k, .int .i64 n, .bool s] w fun e w' => e = .returned (.tuple #[.int .u64 X, .int .i64 Q, .int .i64 E]) ∧ Below w.heap.size w w' := by
  obtain ⟨i0, hi0, hz0, hz1, hz2⟩ := info_parts infoO
  unfold maxLen at hm
  have hpM := hp.leM
  have hpR := hp.leR
  rw [List.length_drop] at hpR
  have HRES := Lib.hid res
  have HP := Lib.hid hp
  have HL := Lib.hid hl
  have HC := Lib.hid hb
  obtain ⟨N, hN⟩ : ∃ N, N = low ((r.drop k).take (p + 1)) := ⟨_, rfl⟩
  have hbits : ∀ (j i : Nat) (c : Int), j ≤ p → i < 7 → r[k + j]? = some c → bit N (7 * j + i) = bit c i := fun j i c hj hi hc => by
    rw [hN]; exact bit_low _ j i c hi (by rw [List.getElem?_take, if_pos (by omega), List.getElem?_drop]; exact hc)
  have HBI := Lib.hid hbits
  have HN := Lib.hid hN
  have hd : decide (r.length < k) = false := by simpa using hk
  have d2 : decide (64 < (n : Int)) = false := by simp; omega
  have d4 : decide (64 < n) = false := by simp; omega
  have d3 : decide ((k : Int) < 0) = false := by simp
  have hd2 : ¬ r.length < k := by omega
  clear res hp hl hb hN hbits
  go_enter Tryz.func137, Tryz.ntmps137
  go_wp2
  go_loopw [11, 12] (fun l i wr => ∃ j : Nat, j ≤ p ∧ i = .int .i64 j ∧ wr.ownsRow w.heap.size 4 1 l (7 * j) (bools N (7 * j)) ∧ Below w.heap.size w wr) (fun _ i _ => p - (intOf i).toNat)
  case atStart => exact ⟨0, by omega, rfl, World.ownsRow_nil _ _ _ _, Below.refl _ _⟩
  case round =>
    obtain ⟨j, hj, rfl, hown, hbe⟩ := hrel
    have hsz := hbe.size
    have HBE := Lib.hid hbe
    clear hbe
    by_cases hM : j < (n + 6) / 7
    · have t1 : ¬ ((n : Int) + 6) / 7 ≤ j := by omega
      by_cases hR : k + j < r.length
      · have t2 : ¬ (r.length : Int) ≤ (k : Int) + j := by omega
        obtain ⟨c, hcj⟩ : ∃ c, r[k + j]? = some c := ⟨_, List.getElem?_eq_getElem hR⟩
        obtain ⟨b, off, rfl, hbB, hcell⟩ := (HL.out.below HBE.out hB).byte hcj
        obtain ⟨c0, c1⟩ := HC.out c (List.mem_of_getElem? hcj)
        have HCJ := Lib.hid hcj
        clear hcj
        go_wp2_with (go_at_call 155; go_must (refine (refMost_in _ _ (by omega) (by omega)).mono ?_; rintro e w' ⟨rfl, rfl⟩))
        obtain ⟨wo, rfl⟩ : ∃ wo : World, wo = wr := ⟨_, rfl⟩
        have HOWN := Lib.hid hown
        clear hown hcell
        go_loopw [11, 14] (fun l i wr => ∃ m : Nat, m ≤ 7 ∧ i = .int .i64 m ∧ wr.ownsRow w.heap.size 4 1 l (7 * j + m) (bools N (7 * j + m)) ∧ Below w.heap.size w wr) (fun _ i _ => 7 - (intOf i).toNat)
        case atStart => exact ⟨0, by omega, rfl, HOWN.out, HBE.out⟩
        case round =>
          obtain ⟨m, hm7, rfl, hown2, hbe2⟩ := hrel
          have hsz2 := hbe2.size
          have HBE2 := Lib.hid hbe2
          clear hbe2
          by_cases hlt : m < 7
          · have hbt := HBI.out j m c hj hlt HCJ.out
            obtain ⟨y, hy⟩ : ∃ y, c / 2 ^ m = y := ⟨_, rfl⟩
            have hy0 : 0 ≤ y := by rw [← hy]; exact Int.ediv_nonneg c0 (Int.le_of_lt (p2 _))
            have hy1 : y ≤ 255 := by rw [← hy]; exact Int.le_trans (Int.ediv_le_self _ c0) c1
            have hbe : bit N (7 * j + m) = (y % 2 == 1) := by rw [hbt]; unfold bit; rw [hy]
            have HBT := Lib.hid hbe
            clear hbt hbe
            go_wp2_with (at_builtin; refine wpList_append_own _ rfl _ _ _ rfl w.heap.size 4 i0 _ 1 1 Tryz.underlying126 hi0 hz0 hz1 hz2 rfl (by omega) _ _ _ rfl (hown2.alloc _) ⟨wr.heap.size, 0, none⟩ 1 1 [.bool (y % 2 == 1)] rfl rfl (World.news_of_block (cs := #[.bool (y % 2 == 1)]) (t := 4) (fr := (0, 0)) (heap_alloc_new wr _)) (by simp [Value.oneCell']) (by unfold maxLen; omega) (by omega) (by simp; omega) ?_; intro v' w2 hown3 hgrow3 _; have HO3 := Lib.hid hown3; have HG3 := Lib.hid hgrow3; clear hown3 hgrow3)
            go_roundw
            case rel => exact ⟨m + 1, by omega, by go_num, by rw [← Nat.add_assoc, bools_snoc, HBT.out]; exact HO3.out, below_append HBE2.out hown2 HG3.out⟩
            case measure => simp [intOf]; omega
          · obtain rfl : m = 7 := by omega
            by_cases hjp : j < p
            · have c2 := HP.out.on j c hjp (by rw [List.getElem?_drop]; exact HCJ.out)
              go_wp2
              go_roundw
              case rel => exact ⟨j + 1, by omega, by go_num, by rw [show 7 * (j + 1) = 7 * j + 7 by omega]; exact hown2, HBE2.out⟩
              case measure => simp [intOf]; omega
            · obtain rfl : j = p := by omega
              have c2 := HP.out.off c hM (by rw [List.getElem?_drop]; exact HCJ.out)
              obtain ⟨mm, hmm⟩ : ∃ mm, mm = 7 * j + 7 := ⟨_, rfl⟩
              rw [← hmm] at hown2
              obtain ⟨A2, cap2, rfl, hle2, hmx2, hl2, _⟩ := lies_own hown2
              obtain ⟨b2, off2, rfl, hb2, _⟩ := hl2 _ _ (bools_get N (show 0 < mm by omega))
              have hcell2 : ∀ i, i < mm → wr.cell? ⟨b2, off2 + i, none⟩ = some (.bool (bit N i)) := fun i hi => by
                obtain ⟨b', off', e', _, h2⟩ := hl2 _ _ (bools_get N hi)
                simp only [Option.some.injEq, Addr.mk.injEq] at e'
                obtain ⟨rfl, rfl, _⟩ := e'
                exact h2
              have HC2 := Lib.hid hcell2
              have hres : (¬ Good s N mm n ∧ X = 0 ∧ Q = 0 ∧ E = 3) ∨ (Good s N mm n ∧ X = ext s N mm % 2 ^ 64 ∧ Q = k + (j + 1) ∧ E = 0) := by
                rcases HRES.out with h | h | h | h
                · omega
                · omega
                · exact .inl (by rw [HN.out, hmm, show 7 * j + 7 = 7 * (j + 1) by omega]; exact h.2.2)
                · exact .inr (by rw [HN.out, hmm, show 7 * j + 7 = 7 * (j + 1) by omega]; exact h.2.2)
              have hNb : 0 ≤ N ∧ N < 2 ^ mm := by
                have h := low_bd ((r.drop k).take (j + 1))
                rw [List.length_take, List.length_drop, show min (j + 1) (r.length - k) = j + 1 by omega, ← HN.out, show 7 * (j + 1) = mm by omega] at h
                exact h
              have hmm7 : 7 ≤ mm := by omega
              have hmm70 : mm ≤ 70 := by omega
              unfold maxLen at hmx2
              obtain ⟨q, hq⟩ : ∃ q, q = min n mm - 1 := ⟨_, rfl⟩
              have hq1 : (min (n : Int) (mm : Int) - 1).toNat = q := by omega
              have hq2 : min (n : Int) (mm : Int) - 1 = (q : Int) := by omega
              have hq3 : q < mm := by omega
              have hqc := hcell2 q hq3
              have HMM := Lib.hid hmm
              clear hcell2 hl2 hown2 hmm
              rcases hres with ⟨hbad, hF⟩ | ⟨hgood, hF⟩
              · have F := Lib.hid hF
                clear hF
                have hbad : ∃ j0, n ≤ j0 ∧ j0 < mm ∧ ¬ bit N j0 = topB s N mm n := by
                  refine Classical.byContradiction fun hno => hbad fun i h1 h2 => Classical.byContradiction fun h3 => hno ⟨i, h1, h2, h3⟩
                cases s
                · have ht : topB false N mm n = false := rfl
                  rw [ht] at hbad
                  clear ht
                  go_wp2
                  obtain ⟨j0, hj1, hj2, hj3⟩ := hbad
                  go_loop [16, 17] (fun v i => ∃ (i' : Nat) (v' : Int), i' ≤ j0 ∧ i = .int .i64 i' ∧ v = .int .u64 v') (fun _ i => j0 - (intOf i).toNat)
                  case atStart => exact ⟨0, 0, by omega, rfl, rfl⟩
                  case round =>
                    obtain ⟨i, v', hij, rfl, rfl⟩ := hrel
                    have h1 : (i : Int) < max 64 (mm : Int) := by omega
                    have h2 : (i : Int) < (mm : Int) := by omega
                    have hci := HC2.out i (by omega)
                    by_cases hin : i < n
                    · have h3 : ¬ (n : Int) ≤ i := by omega
                      have h3d : decide ((n : Int) ≤ i) = false := by simpa using h3
                      have h4 : (i : Int) < 64 := by omega
                      generalize bit N i = x at *
                      cases x
                      all_goals go_wp2
                      all_goals
                        go_round
                        case rel => exact ⟨i + 1, _, by omega, by go_num, rfl⟩
                        case measure => simp [intOf]; omega
                    · have h3 : (n : Int) ≤ i := by omega
                      by_cases hx : bit N i = false
                      · have hi0 : i ≠ j0 := fun e => hj3 (e ▸ hx)
                        rw [hx] at hci
                        have hne : (false != false) = false := by simp
                        skip
                        all_goals (by_cases h4 : (i : Int) < 64)
                        all_goals go_wp2
                        all_goals
                          go_round
                          case rel => exact ⟨i + 1, _, by omega, by go_num, rfl⟩
                          case measure => simp [intOf]; omega
                      · skip
                        all_goals (first
                          | (have hxx : bit N i = true := by simpa using hx
                             rw [hxx] at hci
                             clear hx hxx)
                          | (have hxx : bit N i = false := by simpa using hx
                             rw [hxx] at hci
                             clear hx hxx))
                        all_goals go_wp2
                        all_goals go_ret3
                        all_goals exact ⟨by rw [F.out.1, F.out.2.1, F.out.2.2]; rfl, HBE2.out⟩
                · have ht : topB true N mm n = bit N q := by unfold topB; rw [hq]; rfl
                  rw [ht] at hbad
                  clear ht hq
                  obtain ⟨t, ht⟩ : ∃ t, bit N q = t := ⟨_, rfl⟩
                  rw [ht] at hbad hqc
                  clear ht
                  go_wp2
                  obtain ⟨j0, hj1, hj2, hj3⟩ := hbad
                  go_loop [16, 17] (fun v i => ∃ (i' : Nat) (v' : Int), i' ≤ j0 ∧ i = .int .i64 i' ∧ v = .int .u64 v') (fun _ i => j0 - (intOf i).toNat)
                  case atStart => exact ⟨0, 0, by omega, rfl, rfl⟩
                  case round =>
                    obtain ⟨i, v', hij, rfl, rfl⟩ := hrel
                    have h1 : (i : Int) < max 64 (mm : Int) := by omega
                    have h2 : (i : Int) < (mm : Int) := by omega
                    have hci := HC2.out i (by omega)
                    by_cases hin : i < n
                    · have h3 : ¬ (n : Int) ≤ i := by omega
                      have h3d : decide ((n : Int) ≤ i) = false := by simpa using h3
                      have h4 : (i : Int) < 64 := by omega
                      generalize bit N i = x at *
                      cases x
                      all_goals go_wp2
                      all_goals
                        go_round
                        case rel => exact ⟨i + 1, _, by omega, by go_num, rfl⟩
                        case measure => simp [intOf]; omega
                    · have h3 : (n : Int) ≤ i := by omega
                      by_cases hx : bit N i = t
                      · have hi0 : i ≠ j0 := fun e => hj3 (e ▸ hx)
                        rw [hx] at hci
                        have hne : (t != t) = false := by simp
                        cases t
                        all_goals (by_cases h4 : (i : Int) < 64)
                        all_goals go_wp2
                        all_goals
                          go_round
                          case rel => exact ⟨i + 1, _, by omega, by go_num, rfl⟩
                          case measure => simp [intOf]; omega
                      · cases t
                        all_goals (first
                          | (have hxx : bit N i = true := by simpa using hx
                             rw [hxx] at hci
                             clear hx hxx)
                          | (have hxx : bit N i = false := by simpa using hx
                             rw [hxx] at hci
                             clear hx hxx))
                        all_goals go_wp2
                        all_goals go_ret3
                        all_goals exact ⟨by rw [F.out.1, F.out.2.1, F.out.2.2]; rfl, HBE2.out⟩
              · have F := Lib.hid hF
                obtain ⟨Y, hY⟩ : ∃ Y, Y = ext s N mm := ⟨_, rfl⟩
                rw [← hY] at F
                have HX1 : Hid (∀ i, i < mm → bit Y i = bit N i) := by rw [hY]; exact fun i hi => ext_low s N mm i hi
                have HX2 : Hid (∀ i, n ≤ i ∨ mm ≤ i → bit Y i = topB s N mm n) := by rw [hY]; exact fun i hi => good_ext (by omega) hNb.1 hNb.2 hgood i hi
                clear hF hY hgood
                cases s
                · have ht : topB false N mm n = false := rfl
                  rw [ht] at HX2
                  clear ht
                  go_wp2
                  go_loop [16, 17] (fun v i => ∃ i' : Nat, i' ≤ max 64 mm ∧ i = .int .i64 i' ∧ v = .int .u64 (Y % 2 ^ min i' 64)) (fun _ i => max 64 mm - (intOf i).toNat)
                  case atStart => exact ⟨0, by omega, rfl, by simp⟩
                  case round =>
                    obtain ⟨i, hij, rfl, rfl⟩ := hrel
                    by_cases hlt : i < max 64 mm
                    · have h1 : (i : Int) < max 64 (mm : Int) := by omega
                      have hbi := HX1.out i
                      have hbj := HX2.out i
                      by_cases h4 : i < 64
                      · have h4' : (i : Int) < 64 := by omega
                        have hmb := mod_bit Y i
                        have hmi : min i 64 = i := by omega
                        have hmi2 : min (i + 1) 64 = i + 1 := by omega
                        have hv0 := Int.emod_nonneg Y (Int.ne_of_gt (p2 i))
                        have hv1 := Int.emod_lt_of_pos Y (p2 i)
                        have hm63 := mono2 (a := i) (b := 63) (by omega)
                        have e63 : (2 : Int) ^ 63 = 9223372036854775808 := rfl
                        have hi1 := p2 i
                        rw [hmi]
                        obtain ⟨v, hv⟩ : ∃ v, v = Y % 2 ^ i := ⟨_, rfl⟩
                        obtain ⟨z, hz⟩ : ∃ z, z = (2 : Int) ^ i := ⟨_, rfl⟩
                        rw [← hv] at hv0 hv1 hmb ⊢
                        rw [← hz] at hv1 hm63 hi1 hmb
                        have hw : IntKind.u64.wrap z = z := wrapU (by omega) (by omega)
                        rw [hz] at hw
                        rw [← hz] at hw
                        have hz1 : z ≤ 9223372036854775808 := by omega
                        have hv2 : v ≤ 9223372036854775807 := by omega
                        have hz0 : 0 ≤ z := by omega
                        have HMB := Lib.hid hmb
                        have HM2 := Lib.hid hmi2
                        have hzz : (2 : Int) ^ i = z := hz.symm
                        clear hv hmi hmi2 hmb hm63 e63 hi1 hv1 hz
                        by_cases hin : i < n
                        · have h3 : ¬ (n : Int) ≤ i := by omega
                          have h3d : decide ((n : Int) ≤ i) = false := by simpa using h3
                          by_cases him : i < mm
                          · have h2 : (i : Int) < (mm : Int) := by omega
                            have hci := HC2.out i him
                            rw [← hbi him] at hci
                            clear hbi hbj
                            generalize bit Y i = x at *
                            cases x
                            all_goals go_wp2
                            all_goals
                              go_round
                              case rel => exact ⟨i + 1, by omega, by go_num, by rw [HM2.out, HMB.out]; simp; try (exact wrapU (by omega) (by omega))⟩
                              case measure => simp [intOf]; omega
                          · have h2 : ¬ (i : Int) < (mm : Int) := by omega
                            rw [hbj (.inr (by omega))] at HMB
                            clear hbi hbj
                            skip
                            all_goals go_wp2
                            all_goals
                              go_round
                              case rel => exact ⟨i + 1, by omega, by go_num, by rw [HM2.out, HMB.out]; simp; try (exact wrapU (by omega) (by omega))⟩
                              case measure => simp [intOf]; omega
                        · have h3 : (n : Int) ≤ i := by omega
                          rw [hbj (.inl (by omega))] at HMB
                          by_cases him : i < mm
                          · have h2 : (i : Int) < (mm : Int) := by omega
                            have hci := HC2.out i him
                            rw [← hbi him, hbj (.inl (by omega))] at hci
                            have hne : (false != false) = false := by simp
                            clear hbi hbj
                            skip
                            all_goals go_wp2
                            all_goals
                              go_round
                              case rel => exact ⟨i + 1, by omega, by go_num, by rw [HM2.out, HMB.out]; simp; try (exact wrapU (by omega) (by omega))⟩
                              case measure => simp [intOf]; omega
                          · have h2 : ¬ (i : Int) < (mm : Int) := by omega
                            have h2d : decide ((i : Int) < (mm : Int)) = false := by simpa using h2
                            clear hbi hbj
                            skip
                            all_goals go_wp2
                            all_goals
                              go_round
                              case rel => exact ⟨i + 1, by omega, by go_num, by rw [HM2.out, HMB.out]; simp; try (exact wrapU (by omega) (by omega))⟩
                              case measure => simp [intOf]; omega
                      · have h4' : ¬ (i : Int) < 64 := by omega
                        have h4d : decide ((i : Int) < 64) = false := by simpa using h4'
                        have h3 : (n : Int) ≤ i := by omega
                        have h2 : (i : Int) < (mm : Int) := by omega
                        have hci := HC2.out i (by omega)
                        have HMI : Hid (min (i + 1) 64 = min i 64) := by show min (i + 1) 64 = min i 64; omega
                        rw [← hbi (by omega), hbj (.inl (by omega))] at hci
                        have hne : (false != false) = false := by simp
                        clear hbi hbj
                        generalize hvv : Y % 2 ^ min i 64 = v at *
                        have HV := Lib.hid hvv
                        clear hvv
                        skip
                        all_goals go_wp2
                        all_goals
                          go_round
                          case rel => exact ⟨i + 1, by omega, by go_num, by rw [HMI.out, HV.out]⟩
                          case measure => simp [intOf]; omega
                    · have h1 : ¬ (i : Int) < max 64 (mm : Int) := by omega
                      have hmi : Y % 2 ^ min i 64 = X := by rw [F.out.1, show min i 64 = 64 by omega]
                      rw [hmi]
                      clear hmi
                      go_wp2
                      go_ret3
                      exact ⟨by rw [F.out.2.1, F.out.2.2]; rfl, HBE2.out⟩
                · have ht : topB true N mm n = bit N q := by unfold topB; rw [hq]; rfl
                  rw [ht] at HX2
                  clear ht hq
                  obtain ⟨t, ht⟩ : ∃ t, bit N q = t := ⟨_, rfl⟩
                  rw [ht] at HX2 hqc
                  clear ht
                  go_wp2
                  go_loop [16, 17] (fun v i => ∃ i' : Nat, i' ≤ max 64 mm ∧ i = .int .i64 i' ∧ v = .int .u64 (Y % 2 ^ min i' 64)) (fun _ i => max 64 mm - (intOf i).toNat)
                  case atStart => exact ⟨0, by omega, rfl, by simp⟩
                  case round =>
                    obtain ⟨i, hij, rfl, rfl⟩ := hrel
                    by_cases hlt : i < max 64 mm
                    · have h1 : (i : Int) < max 64 (mm : Int) := by omega
                      have hbi := HX1.out i
                      have hbj := HX2.out i
                      by_cases h4 : i < 64
                      · have h4' : (i : Int) < 64 := by omega
                        have hmb := mod_bit Y i
                        have hmi : min i 64 = i := by omega
                        have hmi2 : min (i + 1) 64 = i + 1 := by omega
                        have hv0 := Int.emod_nonneg Y (Int.ne_of_gt (p2 i))
                        have hv1 := Int.emod_lt_of_pos Y (p2 i)
                        have hm63 := mono2 (a := i) (b := 63) (by omega)
                        have e63 : (2 : Int) ^ 63 = 9223372036854775808 := rfl
                        have hi1 := p2 i
                        rw [hmi]
                        obtain ⟨v, hv⟩ : ∃ v, v = Y % 2 ^ i := ⟨_, rfl⟩
                        obtain ⟨z, hz⟩ : ∃ z, z = (2 : Int) ^ i := ⟨_, rfl⟩
                        rw [← hv] at hv0 hv1 hmb ⊢
                        rw [← hz] at hv1 hm63 hi1 hmb
                        have hw : IntKind.u64.wrap z = z := wrapU (by omega) (by omega)
                        rw [hz] at hw
                        rw [← hz] at hw
                        have hz1 : z ≤ 9223372036854775808 := by omega
                        have hv2 : v ≤ 9223372036854775807 := by omega
                        have hz0 : 0 ≤ z := by omega
                        have HMB := Lib.hid hmb
                        have HM2 := Lib.hid hmi2
                        have hzz : (2 : Int) ^ i = z := hz.symm
                        clear hv hmi hmi2 hmb hm63 e63 hi1 hv1 hz
                        by_cases hin : i < n
                        · have h3 : ¬ (n : Int) ≤ i := by omega
                          have h3d : decide ((n : Int) ≤ i) = false := by simpa using h3
                          by_cases him : i < mm
                          · have h2 : (i : Int) < (mm : Int) := by omega
                            have hci := HC2.out i him
                            rw [← hbi him] at hci
                            clear hbi hbj
                            generalize bit Y i = x at *
                            cases x
                            all_goals go_wp2
                            all_goals
                              go_round
                              case rel => exact ⟨i + 1, by omega, by go_num, by rw [HM2.out, HMB.out]; simp; try (exact wrapU (by omega) (by omega))⟩
                              case measure => simp [intOf]; omega
                          · have h2 : ¬ (i : Int) < (mm : Int) := by omega
                            rw [hbj (.inr (by omega))] at HMB
                            clear hbi hbj
                            cases t
                            all_goals go_wp2
                            all_goals
                              go_round
                              case rel => exact ⟨i + 1, by omega, by go_num, by rw [HM2.out, HMB.out]; simp; try (exact wrapU (by omega) (by omega))⟩
                              case measure => simp [intOf]; omega
                        · have h3 : (n : Int) ≤ i := by omega
                          rw [hbj (.inl (by omega))] at HMB
                          by_cases him : i < mm
                          · have h2 : (i : Int) < (mm : Int) := by omega
                            have hci := HC2.out i him
                            rw [← hbi him, hbj (.inl (by omega))] at hci
                            have hne : (t != t) = false := by simp
                            clear hbi hbj
                            cases t
                            all_goals go_wp2
                            all_goals
                              go_round
                              case rel => exact ⟨i + 1, by omega, by go_num, by rw [HM2.out, HMB.out]; simp; try (exact wrapU (by omega) (by omega))⟩
                              case measure => simp [intOf]; omega
                          · have h2 : ¬ (i : Int) < (mm : Int) := by omega
                            have h2d : decide ((i : Int) < (mm : Int)) = false := by simpa using h2
                            clear hbi hbj
                            cases t
                            all_goals go_wp2
                            all_goals
                              go_round
                              case rel => exact ⟨i + 1, by omega, by go_num, by rw [HM2.out, HMB.out]; simp; try (exact wrapU (by omega) (by omega))⟩
                              case measure => simp [intOf]; omega
                      · have h4' : ¬ (i : Int) < 64 := by omega
                        have h4d : decide ((i : Int) < 64) = false := by simpa using h4'
                        have h3 : (n : Int) ≤ i := by omega
                        have h2 : (i : Int) < (mm : Int) := by omega
                        have hci := HC2.out i (by omega)
                        have HMI : Hid (min (i + 1) 64 = min i 64) := by show min (i + 1) 64 = min i 64; omega
                        rw [← hbi (by omega), hbj (.inl (by omega))] at hci
                        have hne : (t != t) = false := by simp
                        clear hbi hbj
                        generalize hvv : Y % 2 ^ min i 64 = v at *
                        have HV := Lib.hid hvv
                        clear hvv
                        cases t
                        all_goals go_wp2
                        all_goals
                          go_round
                          case rel => exact ⟨i + 1, by omega, by go_num, by rw [HMI.out, HV.out]⟩
                          case measure => simp [intOf]; omega
                    · have h1 : ¬ (i : Int) < max 64 (mm : Int) := by omega
                      have hmi : Y % 2 ^ min i 64 = X := by rw [F.out.1, show min i 64 = 64 by omega]
                      rw [hmi]
                      clear hmi
                      go_wp2
                      go_ret3
                      exact ⟨by rw [F.out.2.1, F.out.2.2]; rfl, HBE2.out⟩
      · have t2 : (r.length : Int) ≤ (k : Int) + j := by omega
        have hjp : j = p := by omega
        have F : Hid (X = 0 ∧ Q = 0 ∧ E = 2) := by
          rcases HRES.out with h | h | h | h
          · omega
          · exact h.2.2
          · omega
          · omega
        go_wp2_with (go_at_call 155; go_must (refine (refMost_in _ _ (by omega) (by omega)).mono ?_; rintro e w' ⟨rfl, rfl⟩))
        go_ret3
        exact ⟨by rw [F.out.1, F.out.2.1, F.out.2.2]; rfl, HBE.out⟩
    · have t1 : ((n : Int) + 6) / 7 ≤ j := by omega
      have hjp : j = p := by omega
      have F : Hid (X = 0 ∧ Q = 0 ∧ E = 3) := by
        rcases HRES.out with h | h | h | h
        · exact h.2
        · omega
        · omega
        · omega
      go_wp2_with (go_at_call 155; go_must (refine (refMost_in _ _ (by omega) (by omega)).mono ?_; rintro e w' ⟨rfl, rfl⟩))
      go_ret3
      exact ⟨by rw [F.out.1, F.out.2.1, F.out.2.2]; rfl, HBE.out⟩
end Go.Proofs.YtebgmfjgapmpfabGreatDoor

/- Both readers, each beside the reference: the same answer. -/
namespace Go.Proofs.YtebgmfjgapmpfabGreatDoor
open Go.RowKit
set_option linter.unusedVariables false

theorem low_take {q : List Int} {p : Nat} {c : Int} (hpc : q[p]? = some c) (c0 : 0 ≤ c) (c2 : c < 128) : low (q.take (p + 1)) = numU (q.take p) c := by
  have hp := (List.getElem?_eq_some_iff.1 hpc).1
  rw [take_snoc hpc, low_snoc]
  unfold numU
  rw [Int.emod_eq_of_lt c0 c2]
theorem take_len {q : List Int} {p : Nat} {c : Int} (hpc : q[p]? = some c) : (q.take p).length = p := by
  have hp := (List.getElem?_eq_some_iff.1 hpc).1
  rw [List.length_take]; omega
theorem num_bd {q : List Int} {p : Nat} {c : Int} (hpc : q[p]? = some c) (c0 : 0 ≤ c) (c2 : c < 128) : 0 ≤ numU (q.take p) c ∧ numU (q.take p) c < 2 ^ (7 * (p + 1)) := by
  have hp := (List.getElem?_eq_some_iff.1 hpc).1
  have h := low_bd (q.take (p + 1))
  rw [low_take hpc c0 c2, List.length_take, show min (p + 1) q.length = p + 1 by omega] at h
  exact h
theorem ext_signed {q : List Int} {p : Nat} {c : Int} (hpc : q[p]? = some c) (c0 : 0 ≤ c) (c2 : c < 128) : ext true (numU (q.take p) c) (7 * (p + 1)) = numS (q.take p) c := by
  obtain ⟨b0, b1⟩ := num_bd hpc c0 c2
  have hb := bit_top (m := 7 * (p + 1)) (by omega) b0 b1
  obtain ⟨l0, l1⟩ := low_bd (q.take p)
  unfold ext
  unfold numS numU at *
  rw [take_len hpc] at *
  rw [hb]
  have e1 : (2 : Int) ^ (7 * (p + 1) - 1) = 64 * 2 ^ (7 * p) := by rw [show 7 * (p + 1) - 1 = 7 * p + 6 by omega, Int.pow_add, Int.mul_comm]; rfl
  have e2 : (2 : Int) ^ (7 * (p + 1)) = 128 * 2 ^ (7 * p) := by rw [show 7 * (p + 1) = 7 * p + 7 by omega, Int.pow_add, Int.mul_comm]; rfl
  rw [e1, e2]
  unfold sg
  generalize (2 : Int) ^ (7 * p) = t at *
  by_cases h : 64 ≤ c
  · have : 64 * t ≤ low (q.take p) + c * t := by
      have := Int.mul_le_mul_of_nonneg_right h (show 0 ≤ t by omega)
      omega
    simp only [this, decide_true, Bool.and_self, if_true, if_pos h]
    grind
  · have : ¬ 64 * t ≤ low (q.take p) + c * t := by
      have := Int.mul_le_mul_of_nonneg_right (show c ≤ 63 by omega) (show 0 ≤ t by omega)
      omega
    simp only [this, decide_false, Bool.and_false, Bool.false_eq_true, if_false, if_neg h]

/-- What is asked of a slice that comes in: it reads as these bytes. -/
structure Has (w : World) (B : Nat) (A : Option Addr) (cap : Nat) (r : List Int) : Prop where
  lies : Lies w B A (cells r)
  low_ : B ≤ w.heap.size
  room : r.length ≤ cap
  most : cap ≤ maxLen

theorem both_u (r : List Int) (hb : ∀ c ∈ r, 0 ≤ c ∧ c ≤ 255) (at_ n : Int) : ∃ X Q E : Int, 
    (∀ A cap B w, Has w B A cap r → Calls Tryz.prog 146 #[.slice A r.length cap, .int .i64 at_, .int .i64 n] w fun x w' => x = .returned (.tuple #[.int .u64 X, .int .i64 Q, .int .i64 E]) ∧ w = w') ∧
    (∀ A cap B w, Has w B A cap r → Calls Tryz.prog 137 #[.slice A r.length cap, .int .i64 at_, .int .i64 n, .bool false] w fun x w' => x = .returned (.tuple #[.int .u64 X, .int .i64 Q, .int .i64 E]) ∧ Below w.heap.size w w') := by
  by_cases hw : n < 1 ∨ 64 < n ∨ at_ < 0 ∨ (r.length : Int) < at_
  · exact ⟨0, 0, 1, fun A cap B w h => ru_fail _ _ _ 1 w (.inl rfl) (length_wrong r A cap at_ n w hw), fun A cap B w h => rr_wrong r A cap at_ n false w hw⟩
  · obtain ⟨k, rfl⟩ : ∃ k : Nat, at_ = k := ⟨at_.toNat, by omega⟩
    obtain ⟨m, rfl⟩ : ∃ m : Nat, n = m := ⟨n.toNat, by omega⟩
    have hk : k ≤ r.length := by omega
    have m1 : 1 ≤ m := by omega
    have m2 : m ≤ 64 := by omega
    obtain ⟨p, hp⟩ := stop_ex (r.drop k) ((m + 6) / 7)
    have hpM := hp.leM
    have hpR := hp.leR
    rw [List.length_drop] at hpR
    by_cases h1 : p = (m + 6) / 7
    · refine ⟨0, 0, 3, fun A cap B w h => ru_fail _ _ _ 3 w (.inr (.inr rfl)) ?_, fun A cap B w h => rr_right r A cap B k m p false 0 0 3 w h.lies h.low_ hb h.room h.most hk m1 m2 hp (.inl ⟨h1, rfl, rfl, rfl⟩)⟩
      have := length_right r A cap B k m p w h.lies hb h.room h.most hk m1 m2 hp
      unfold lenN lenE at this
      rwa [if_pos h1, if_pos h1] at this
    · by_cases h2 : p = r.length - k
      · refine ⟨0, 0, 2, fun A cap B w h => ru_fail _ _ _ 2 w (.inr (.inl rfl)) ?_, fun A cap B w h => rr_right r A cap B k m p false 0 0 2 w h.lies h.low_ hb h.room h.most hk m1 m2 hp (.inr (.inl ⟨by omega, by omega, rfl, rfl, rfl⟩))⟩
        have := length_right r A cap B k m p w h.lies hb h.room h.most hk m1 m2 hp
        unfold lenN lenE at this
        rwa [if_neg h1, if_neg h1, if_pos h2, if_pos h2] at this
      · obtain ⟨c, hpc⟩ : ∃ c, (r.drop k)[p]? = some c := ⟨_, List.getElem?_eq_getElem (by rw [List.length_drop]; omega)⟩
        obtain ⟨c0, c1⟩ := hb c (List.mem_of_mem_drop (List.mem_of_getElem? hpc))
        have hpM2 : p < (m + 6) / 7 := by omega
        have c2 := hp.off c hpM2 hpc
        obtain ⟨l0, l1⟩ := low_bd ((r.drop k).take p)
        obtain ⟨b0, b1⟩ := num_bd hpc c0 c2
        have hlen := take_len hpc
        rw [hlen] at l1
        have hov : numU ((r.drop k).take p) c / 2 ^ m = c / 2 ^ (m - 7 * p) := by unfold numU; rw [hlen]; exact over_more l0 l1 (by omega)
        have hext : ext false (numU ((r.drop k).take p) c) (7 * (p + 1)) = numU ((r.drop k).take p) c := by simp [ext]
        have hgf := good_fits (s := false) (n := m) (m := 7 * (p + 1)) (by omega) m1 b0 b1
        have hfit : Fits false (numU ((r.drop k).take p) c) m ↔ c / 2 ^ (m - 7 * p) = 0 := by unfold Fits; rw [if_neg (by simp), hov]
        rw [hext, hfit] at hgf
        have hlow := low_take hpc c0 c2
        by_cases hf : c / 2 ^ (m - 7 * p) = 0
        · refine ⟨numU ((r.drop k).take p) c, k + (p + 1), 0, fun A cap B w h => ru_ok r A cap B k m p c w h.lies hb h.room h.most hk m1 m2 hp hpM2 hpc hf, fun A cap B w h => ?_⟩
          refine rr_right r A cap B k m p false _ _ _ w h.lies h.low_ hb h.room h.most hk m1 m2 hp (.inr (.inr (.inr ⟨hpM2, by omega, ?_, ?_, rfl, rfl⟩)))
          · rw [hlow]; exact hgf.2 hf
          · rw [hlow, hext]
            have hbu := bdU (c := c) l0 l1 c0 (b := m) (by omega) hf
            have hm := mono2 m2
            have e : numU ((r.drop k).take p) c = low ((r.drop k).take p) + c * 2 ^ (7 * p) := by unfold numU; rw [hlen]
            rw [Int.emod_eq_of_lt b0 (by omega)]
        · refine ⟨0, 0, 3, fun A cap B w h => ru_far r A cap B k m p c w h.lies hb h.room h.most hk m1 m2 hp hpM2 hpc hf, fun A cap B w h => ?_⟩
          refine rr_right r A cap B k m p false _ _ _ w h.lies h.low_ hb h.room h.most hk m1 m2 hp (.inr (.inr (.inl ⟨hpM2, by omega, ?_, rfl, rfl, rfl⟩)))
          rw [hlow]; exact fun hg => hf (hgf.1 hg)

theorem both_s (r : List Int) (hb : ∀ c ∈ r, 0 ≤ c ∧ c ≤ 255) (at_ n : Int) : ∃ X Q E : Int, -9223372036854775808 ≤ X ∧ X ≤ 9223372036854775807 ∧
    (∀ A cap B w, Has w B A cap r → Calls Tryz.prog 154 #[.slice A r.length cap, .int .i64 at_, .int .i64 n] w fun x w' => x = .returned (.tuple #[.int .i64 X, .int .i64 Q, .int .i64 E]) ∧ w = w') ∧
    (∀ A cap B w, Has w B A cap r → Calls Tryz.prog 137 #[.slice A r.length cap, .int .i64 at_, .int .i64 n, .bool true] w fun x w' => x = .returned (.tuple #[.int .u64 (X % 2 ^ 64), .int .i64 Q, .int .i64 E]) ∧ Below w.heap.size w w') := by
  have z0 : (0 : Int) % 2 ^ 64 = 0 := rfl
  by_cases hw : n < 1 ∨ 64 < n ∨ at_ < 0 ∨ (r.length : Int) < at_
  · exact ⟨0, 0, 1, by omega, by omega, fun A cap B w h => ri_fail _ _ _ 1 w (.inl rfl) (length_wrong r A cap at_ n w hw), fun A cap B w h => rr_wrong r A cap at_ n true w hw⟩
  · obtain ⟨k, rfl⟩ : ∃ k : Nat, at_ = k := ⟨at_.toNat, by omega⟩
    obtain ⟨m, rfl⟩ : ∃ m : Nat, n = m := ⟨n.toNat, by omega⟩
    have hk : k ≤ r.length := by omega
    have m1 : 1 ≤ m := by omega
    have m2 : m ≤ 64 := by omega
    obtain ⟨p, hp⟩ := stop_ex (r.drop k) ((m + 6) / 7)
    have hpM := hp.leM
    have hpR := hp.leR
    rw [List.length_drop] at hpR
    by_cases h1 : p = (m + 6) / 7
    · refine ⟨0, 0, 3, by omega, by omega, fun A cap B w h => ri_fail _ _ _ 3 w (.inr (.inr rfl)) ?_, fun A cap B w h => rr_right r A cap B k m p true 0 0 3 w h.lies h.low_ hb h.room h.most hk m1 m2 hp (.inl ⟨h1, rfl, rfl, rfl⟩)⟩
      have := length_right r A cap B k m p w h.lies hb h.room h.most hk m1 m2 hp
      unfold lenN lenE at this
      rwa [if_pos h1, if_pos h1] at this
    · by_cases h2 : p = r.length - k
      · refine ⟨0, 0, 2, by omega, by omega, fun A cap B w h => ri_fail _ _ _ 2 w (.inr (.inl rfl)) ?_, fun A cap B w h => rr_right r A cap B k m p true 0 0 2 w h.lies h.low_ hb h.room h.most hk m1 m2 hp (.inr (.inl ⟨by omega, by omega, rfl, rfl, rfl⟩))⟩
        have := length_right r A cap B k m p w h.lies hb h.room h.most hk m1 m2 hp
        unfold lenN lenE at this
        rwa [if_neg h1, if_neg h1, if_pos h2, if_pos h2] at this
      · obtain ⟨c, hpc⟩ : ∃ c, (r.drop k)[p]? = some c := ⟨_, List.getElem?_eq_getElem (by rw [List.length_drop]; omega)⟩
        obtain ⟨c0, c1⟩ := hb c (List.mem_of_mem_drop (List.mem_of_getElem? hpc))
        have hpM2 : p < (m + 6) / 7 := by omega
        have c2 := hp.off c hpM2 hpc
        obtain ⟨l0, l1⟩ := low_bd ((r.drop k).take p)
        obtain ⟨b0, b1⟩ := num_bd hpc c0 c2
        have hlen := take_len hpc
        rw [hlen] at l1
        have hov : numS ((r.drop k).take p) c / 2 ^ (m - 1) = sg c / 2 ^ (m - 7 * p - 1) := by
          unfold numS; rw [hlen, show m - 7 * p - 1 = m - 1 - 7 * p by omega]; exact over_more l0 l1 (by omega)
        have hext := ext_signed hpc c0 c2
        have hgf := good_fits (s := true) (n := m) (m := 7 * (p + 1)) (by omega) m1 b0 b1
        have hfit : Fits true (numS ((r.drop k).take p) c) m ↔ (sg c / 2 ^ (m - 7 * p - 1) = 0 ∨ sg c / 2 ^ (m - 7 * p - 1) = -1) := by unfold Fits; rw [if_pos rfl, hov]
        rw [hext, hfit] at hgf
        have hlow := low_take hpc c0 c2
        by_cases hf : sg c / 2 ^ (m - 7 * p - 1) = 0 ∨ sg c / 2 ^ (m - 7 * p - 1) = -1
        · have hbu := bdS (c := sg c) l0 l1 (b := m - 1) (by omega) (by rw [show m - 1 - 7 * p = m - 7 * p - 1 by omega]; exact hf)
          have hm := mono2 (a := m - 1) (b := 63) (by omega)
          have e63 : (2 : Int) ^ 63 = 9223372036854775808 := rfl
          have e : numS ((r.drop k).take p) c = low ((r.drop k).take p) + sg c * 2 ^ (7 * p) := by unfold numS; rw [hlen]
          refine ⟨numS ((r.drop k).take p) c, k + (p + 1), 0, by omega, by omega, fun A cap B w h => ri_ok r A cap B k m p c w h.lies hb h.room h.most hk m1 m2 hp hpM2 hpc hf, fun A cap B w h => ?_⟩
          refine rr_right r A cap B k m p true _ _ _ w h.lies h.low_ hb h.room h.most hk m1 m2 hp (.inr (.inr (.inr ⟨hpM2, by omega, ?_, ?_, rfl, rfl⟩)))
          · rw [hlow]; exact hgf.2 hf
          · rw [hlow, hext]
        · refine ⟨0, 0, 3, by omega, by omega, fun A cap B w h => ri_far r A cap B k m p c w h.lies hb h.room h.most hk m1 m2 hp hpM2 hpc hf, fun A cap B w h => ?_⟩
          refine rr_right r A cap B k m p true _ _ _ w h.lies h.low_ hb h.room h.most hk m1 m2 hp (.inr (.inr (.inl ⟨hpM2, by omega, ?_, rfl, rfl, rfl⟩)))
          rw [hlow]; exact fun hg => hf (hgf.1 hg)
end Go.Proofs.YtebgmfjgapmpfabGreatDoor

/- The law LebReads. -/
namespace Go.Proofs.YtebgmfjgapmpfabGreatDoor
open Go.RowKit
set_option linter.unusedVariables false

theorem Has.below {w w' : World} {B : Nat} {A : Option Addr} {cap : Nat} {r : List Int} (h : Has w B A cap r) (hb : Below w.heap.size w w') : Has w' B A cap r :=
  ⟨h.lies.below hb h.low_, Nat.le_trans h.low_ hb.size, h.room, h.most⟩
theorem back_s {V : Int} (h0 : -9223372036854775808 ≤ V) (h1 : V ≤ 9223372036854775807) : IntKind.i64.wrap (V % 2 ^ 64) = V := by
  have e : (2 : Int) ^ 64 = 18446744073709551616 := rfl
  rw [IntKind.wrap_i64, e]
  omega

end Go.Proofs.YtebgmfjgapmpfabGreatDoor

/- What is written is read again: behind it, longer by a group, without its last byte. -/
namespace Go.Proofs.YtebgmfjgapmpfabGreatDoor
open Go.RowKit
set_option linter.unusedVariables false

theorem p128_2 (k : Nat) : (128 : Int) ^ k = 2 ^ (7 * k) := (pow7 k).symm
theorem mod_step (x : Int) (k : Nat) : x % 2 ^ (7 * (k + 1)) = x % 2 ^ (7 * k) + x / 2 ^ (7 * k) % 128 * 2 ^ (7 * k) := by
  have hp := p2 (7 * k)
  have e4 : (2 : Int) ^ (7 * (k + 1)) = 128 * 2 ^ (7 * k) := by rw [show 7 * (k + 1) = 7 * k + 7 by omega, Int.pow_add, Int.mul_comm]; rfl
  have e3 : x / 2 ^ (7 * (k + 1)) = x / 2 ^ (7 * k) / 128 := by rw [show 7 * (k + 1) = 7 * k + 7 by omega, ← div_pow]; rfl
  have e1 := Int.emod_def x (2 ^ (7 * k))
  have e2 := Int.emod_def x (2 ^ (7 * (k + 1)))
  rw [e3, e4] at e2
  rw [e4, e2, e1]
  have h2 : x / 2 ^ (7 * k) = 128 * (x / 2 ^ (7 * k) / 128) + x / 2 ^ (7 * k) % 128 := by omega
  generalize x / 2 ^ (7 * k) / 128 = q at *
  generalize x / 2 ^ (7 * k) % 128 = m at *
  rw [h2]
  grind
theorem low_grps (x : Int) : ∀ k, low (grps x k) = x % 2 ^ (7 * k)
  | 0 => by simp [grps, low]
  | k + 1 => by
    rw [grps_snoc, low_snoc, low_grps x k, grps_length, mod_step, p128_2]
    congr 2
    omega
theorem grps_wf (x : Int) (k : Nat) : ∀ c ∈ grps x k, 0 ≤ c ∧ c ≤ 255 := by
  intro c hc
  obtain ⟨i, _, rfl⟩ := List.mem_map.1 hc
  omega
theorem grps_on (x : Int) (k : Nat) : ∀ c ∈ grps x k, 128 ≤ c := by
  intro c hc
  obtain ⟨i, _, rfl⟩ := List.mem_map.1 hc
  omega
theorem grps_at (x : Int) (p : Nat) (c : Int) (l : List Int) : (grps x p ++ c :: l)[p]? = some c := by
  have h : (grps x p).length = p := grps_length x p
  rw [List.getElem?_append_right (by omega), h]; simp
theorem grps_take (x : Int) (p : Nat) (c : Int) (l : List Int) : (grps x p ++ c :: l).take p = grps x p := by
  have h : (grps x p).length = p := grps_length x p
  rw [List.take_append_of_le_length (by omega), List.take_of_length_le (by omega)]
theorem grps_stop (x : Int) (p M : Nat) (c : Int) (l : List Int) (hc : c < 128) (hM : p ≤ M) : Stop M (grps x p ++ c :: l) p := by
  have h : (grps x p).length = p := grps_length x p
  refine ⟨hM, by simp; omega, fun i d hi hd => ?_, fun d _ hd => ?_⟩
  · rw [List.getElem?_append_left (by omega)] at hd
    exact grps_on x p d (List.mem_of_getElem? hd)
  · rw [grps_at] at hd; injection hd with hd; omega
theorem grps_short (x : Int) (p M : Nat) (hM : p ≤ M) : Stop M (grps x p) p := by
  have h : (grps x p).length = p := grps_length x p
  refine ⟨hM, by omega, fun i d hi hd => grps_on x p d (List.mem_of_getElem? hd), fun d _ hd => ?_⟩
  rw [List.getElem?_eq_none (by omega)] at hd; cases hd

theorem rdU (x c : Int) (p n : Nat) (l : List Int) (A : Option Addr) (cap B len : Nat) (w : World) (hlen : (grps x p ++ c :: l).length = len) (hh : Has w B A cap (grps x p ++ c :: l)) (hwf : ∀ d ∈ l, 0 ≤ d ∧ d ≤ 255)
    (hx : x % 2 ^ (7 * p) + c * 2 ^ (7 * p) = x) (c0 : 0 ≤ c) (c1 : c < 128) (hf : c / 2 ^ (n - 7 * p) = 0) (n1 : 1 ≤ n) (n2 : n ≤ 64) (hp : p < (n + 6) / 7) :
    Calls Tryz.prog 146 #[.slice A len cap, .int .i64 0, .int .i64 n] w fun e w' => e = .returned (.tuple #[.int .u64 x, .int .i64 ((p : Int) + 1), .int .i64 0]) ∧ w = w' := by
  subst hlen
  have hb : ∀ d ∈ grps x p ++ c :: l, 0 ≤ d ∧ d ≤ 255 := fun d hd => by
    rcases List.mem_append.1 hd with h | h
    · exact grps_wf x p d h
    · rcases List.mem_cons.1 h with rfl | h
      · omega
      · exact hwf d h
  have h := ru_ok (grps x p ++ c :: l) A cap B 0 n p c w hh.lies hb hh.room hh.most (Nat.zero_le _) n1 n2 (by rw [List.drop_zero]; exact grps_stop x p _ c l c1 (by omega)) hp (by rw [List.drop_zero]; exact grps_at x p c l) hf
  rw [List.drop_zero, grps_take] at h
  have e : numU (grps x p) c = x := by unfold numU; rw [low_grps, grps_length]; exact hx
  rw [e] at h
  refine h.mono fun e' w' he => ⟨?_, he.2⟩
  rw [he.1]; simp
theorem rdS (x c : Int) (p n : Nat) (l : List Int) (A : Option Addr) (cap B len : Nat) (w : World) (hlen : (grps x p ++ c :: l).length = len) (hh : Has w B A cap (grps x p ++ c :: l)) (hwf : ∀ d ∈ l, 0 ≤ d ∧ d ≤ 255)
    (hx : x % 2 ^ (7 * p) + sg c * 2 ^ (7 * p) = x) (c0 : 0 ≤ c) (c1 : c < 128) (hf : sg c / 2 ^ (n - 7 * p - 1) = 0 ∨ sg c / 2 ^ (n - 7 * p - 1) = -1) (n1 : 1 ≤ n) (n2 : n ≤ 64) (hp : p < (n + 6) / 7) :
    Calls Tryz.prog 154 #[.slice A len cap, .int .i64 0, .int .i64 n] w fun e w' => e = .returned (.tuple #[.int .i64 x, .int .i64 ((p : Int) + 1), .int .i64 0]) ∧ w = w' := by
  subst hlen
  have hb : ∀ d ∈ grps x p ++ c :: l, 0 ≤ d ∧ d ≤ 255 := fun d hd => by
    rcases List.mem_append.1 hd with h | h
    · exact grps_wf x p d h
    · rcases List.mem_cons.1 h with rfl | h
      · omega
      · exact hwf d h
  have h := ri_ok (grps x p ++ c :: l) A cap B 0 n p c w hh.lies hb hh.room hh.most (Nat.zero_le _) n1 n2 (by rw [List.drop_zero]; exact grps_stop x p _ c l c1 (by omega)) hp (by rw [List.drop_zero]; exact grps_at x p c l) hf
  rw [List.drop_zero, grps_take] at h
  have e : numS (grps x p) c = x := by unfold numS; rw [low_grps, grps_length]; exact hx
  rw [e] at h
  refine h.mono fun e' w' he => ⟨?_, he.2⟩
  rw [he.1]; simp
theorem rdShort (x : Int) (p n : Nat) (A : Option Addr) (cap B : Nat) (w : World) (hh : Has w B A cap (grps x p)) (n1 : 1 ≤ n) (n2 : n ≤ 64) (hp : p < (n + 6) / 7) :
    Calls Tryz.prog 146 #[.slice A p cap, .int .i64 0, .int .i64 n] w fun e w' => e = .returned (.tuple #[.int .u64 0, .int .i64 0, .int .i64 2]) ∧ w = w' := by
  have hl := grps_length x p
  have h := length_right (grps x p) A cap B 0 n p w hh.lies (grps_wf x p) hh.room hh.most (Nat.zero_le _) n1 n2 (by rw [List.drop_zero]; exact grps_short x p _ (by omega))
  unfold lenN lenE at h
  have hne : ¬ p = (n + 6) / 7 := by omega
  rw [hl] at h
  simp [hne] at h
  exact ru_fail _ _ _ 2 w (.inr (.inl rfl)) h

/-- A number below 2^n and its least groups. -/
theorem least_u {x : Int} {n na : Nat} (h0 : 0 ≤ x) (h1 : x < 2 ^ n) (n1 : 1 ≤ n) (n2 : n ≤ 64) (hn : Least (fitU x) na) :
    ∃ p c, na = p + 1 ∧ grp x na = grps x p ++ [c] ∧ x % 2 ^ (7 * p) + c * 2 ^ (7 * p) = x ∧ 0 ≤ c ∧ c < 128 ∧ c / 2 ^ (n - 7 * p) = 0 ∧ p < (n + 6) / 7 := by
  have hle : na ≤ (n + 6) / 7 := by
    refine hn.le (by omega) ?_
    show x / 128 ^ ((n + 6) / 7 - 1) < 128
    have hM : 1 ≤ (n + 6) / 7 := by omega
    have hM2 : n ≤ 7 * ((n + 6) / 7) := by omega
    generalize (n + 6) / 7 = M at *
    have e : (128 : Int) * 128 ^ (M - 1) = 2 ^ (7 * M) := by rw [p128_2, show 7 * M = 7 * (M - 1) + 7 by omega, Int.pow_add, Int.mul_comm]; rfl
    rw [Int.ediv_lt_iff_lt_mul (p128 _), e]
    have := mono2 hM2
    omega
  have h1' := hn.1
  obtain ⟨p, rfl⟩ : ∃ p, na = p + 1 := ⟨na - 1, by omega⟩
  have hf : x / 128 ^ p < 128 := hn.2.1
  have hq : 0 ≤ x / 128 ^ p := Int.ediv_nonneg h0 (Int.le_of_lt (p128 _))
  have hc : x / 128 ^ p % 128 = x / 128 ^ p := Int.emod_eq_of_lt hq hf
  refine ⟨p, x / 128 ^ p, rfl, by rw [grp_snoc, hc], ?_, hq, hf, ?_, by omega⟩
  · rw [p128_2, Int.mul_comm]; exact Int.emod_add_mul_ediv x _
  · rw [p128_2, div_pow, show 7 * p + (n - 7 * p) = n by omega]; exact Int.ediv_eq_zero_of_lt h0 h1
theorem least_s {x : Int} {n na : Nat} (h0 : -2 ^ (n - 1) ≤ x) (h1 : x < 2 ^ (n - 1)) (n1 : 1 ≤ n) (n2 : n ≤ 64) (hn : Least (fitS x) na) :
    ∃ p c, na = p + 1 ∧ grp x na = grps x p ++ [c] ∧ x % 2 ^ (7 * p) + sg c * 2 ^ (7 * p) = x ∧ 0 ≤ c ∧ c < 128 ∧ (sg c / 2 ^ (n - 7 * p - 1) = 0 ∨ sg c / 2 ^ (n - 7 * p - 1) = -1) ∧ p < (n + 6) / 7 := by
  have hle : na ≤ (n + 6) / 7 := by
    refine hn.le (by omega) ?_
    have e : (64 : Int) * 128 ^ ((n + 6) / 7 - 1) = 2 ^ (7 * ((n + 6) / 7 - 1) + 6) := by rw [p128_2, Int.pow_add, Int.mul_comm]; rfl
    have := mono2 (a := n - 1) (b := 7 * ((n + 6) / 7 - 1) + 6) (by omega)
    refine ⟨(Int.le_ediv_iff_mul_le (p128 _)).2 ?_, (Int.ediv_lt_iff_lt_mul (p128 _)).2 ?_⟩
    · rw [Int.neg_mul, e]; omega
    · rw [e]; omega
  have h1' := hn.1
  obtain ⟨p, rfl⟩ : ∃ p, na = p + 1 := ⟨na - 1, by omega⟩
  obtain ⟨f0, f1⟩ : -64 ≤ x / 128 ^ p ∧ x / 128 ^ p < 64 := hn.2.1
  have hs : sg (x / 128 ^ p % 128) = x / 128 ^ p := by unfold sg; split <;> omega
  refine ⟨p, x / 128 ^ p % 128, rfl, by rw [grp_snoc], ?_, by omega, by omega, ?_, by omega⟩
  · rw [hs, p128_2, Int.mul_comm]; exact Int.emod_add_mul_ediv x _
  · rw [hs, p128_2, div_pow, show 7 * p + (n - 7 * p - 1) = n - 1 by omega]
    obtain ⟨b0, b1⟩ := div_bounds (x := x) (a := n - 1) (b := n - 1) (Nat.le_refl _) h0 h1
    simp at b0 b1
    omega

theorem Lies.cell_add {w : World} {B : Nat} {ad : Addr} {vs : List Value} (h : Lies w B (some ad) vs) : ∀ j u, vs[j]? = some u → w.cell? (ad.add j) = some u := fun j u hu => by
  obtain ⟨b, off, e, _, h2⟩ := h j u hu
  injection e with e
  subst e
  rw [Go.WideShapes.add_plain]; exact h2
/-- append of whatever lies somewhere, nil too. -/
theorem wpList_append_lies {P : Program} {w : World} {ops : Array Oper} {rest : List Oper} {o : Oper} {a : Act} {Q : Exit → Act → World → Prop} (hgd : o.guard = none) (s x : Operand) (t : TypeId)
    (ho : o.op = .call { callee := .builtin .append, args := #[s, x], argTypes := #[t, t] })
    (base : Nat) (e : TypeId) (i : TypeInfo) (z : Value) (ht : P.underlying t = some (.slice e)) (hi : P.info? e = some i) (hz : i.zero = some z)
    (hsize : i.size = 1) (hby : i.bytes = 1) (hzs : z.cells.size = 1)
    (v : Value) (n : Nat) (xs : List Value) (hs : a.eval s = v) (hown : w.ownsRow base e 1 v n xs)
    (A : Option Addr) (m c B : Nat) (news : List Value) (hx : a.eval x = .slice A m c) (hl : news.length = m) (hnews : Lies w B A news) (hA : A = none → m = 0 ∧ c = 0) (h1 : ∀ u ∈ news, u.oneCell' = true)
    (h63 : n + m ≤ 1000) (hbase : base ≤ w.heap.size)
    (h : ∀ v' w', w'.ownsRow base e 1 v' (n + m) (xs ++ news) → w.grownBy w' v.ownBlock → wpList P ops Q rest (a.put o.dst v') w') : wpList P ops Q (o :: rest) a w := by
  rcases A with _ | ad
  · obtain ⟨rfl, rfl⟩ := hA rfl
    have hn : news = [] := List.eq_nil_of_length_eq_zero hl
    subst hn
    refine wpList_append_own_none hgd s x t ho base e i 1 ht hi v n xs hs hown hx (h v w (by simpa using hown) (World.grownBy.refl w _))
  · exact wpList_append_own w hgd s x t ho base e i z 1 1 ht hi hz hsize hby hzs (by omega) v n xs hs hown ad m c news hx (by omega) hnews.cell_add h1 (by unfold maxLen; omega) (by omega) hbase (fun v' w' h2 h3 _ => h v' w' h2 h3)
end Go.Proofs.YtebgmfjgapmpfabGreatDoor

/- What is written is read back: numbers, types, limits, globals. Of no program but for what a reading is. -/
namespace Go.Proofs.YtebgmfjgapmpfabGreatDoor
set_option maxRecDepth 100000
open Go.RowKit
set_option linter.unusedVariables false

theorem Stop.unique {M : Nat} {r : List Int} {p q : Nat} (h : Stop M r p) (g : Stop M r q) : p = q := by
  have key : ∀ {p q : Nat}, Stop M r p → Stop M r q → ¬ p < q := by
    intro p q h g hlt
    have h1 := g.leM
    have h2 := g.leR
    have e : r[p]? = some r[p] := List.getElem?_eq_getElem (by omega)
    have a := g.on p _ hlt e
    have b := h.off _ (by omega) e
    omega
  have a := key h g
  have b := key g h
  omega
theorem drop_past {l a r : List UInt8} {k : Nat} (h : l.drop k = a ++ r) : l.drop (k + a.length) = r := by
  rw [← List.drop_drop, h, List.drop_left]
theorem byteR_at {l r : List UInt8} {k : Nat} {c : UInt8} (h : l.drop k = c :: r) : byteR l k = .ok c (k + 1) := by
  have e : l[k]? = some c := by
    have := congrArg (·[0]?) h
    simpa using this
  unfold byteR
  rw [e]
theorem uintR_at {l r : List UInt8} {k n : Nat} {x : Int} (h : l.drop k = lebL x ++ r) (h0 : 0 ≤ x) (h1 : x < 2 ^ n) (n1 : 1 ≤ n) (n2 : n ≤ 64) : uintR l k n = .ok x (k + (lebL x).length) := by
  have m64 := mono2 n2
  have e64 : (2 : Int) ^ 64 = 18446744073709551616 := rfl
  have hna := lebN_least x (by omega)
  have hlen := lebL_length x
  have hnl := nums_lebL x
  obtain ⟨p, c, he, hg, hx, c0, c1, hf, hp⟩ := least_u h0 h1 n1 n2 hna
  rw [he] at hlen hnl
  rw [he] at hg
  have hd : (nums l).drop k = grps x p ++ c :: nums r := by
    have : (nums l).drop k = nums (l.drop k) := by unfold nums; rw [List.map_drop]
    rw [this, h, nums_append, hnl, hg]
    simp
  have hq : onN l k n = p := by
    have := onN_stop l k n
    rw [hd] at this
    exact this.unique (grps_stop x p _ c _ c1 (by omega))
  unfold uintR
  rw [if_pos ⟨n1, n2⟩, hq, if_neg (by omega), hd, grps_at]
  simp only
  rw [if_pos hf, grps_take, hlen]
  have e : numU (grps x p) c = x := by unfold numU; rw [low_grps, grps_length]; exact hx
  rw [e]
theorem indexR_at {l r : List UInt8} {k : Nat} {x : Int} (h : l.drop k = lebL x ++ r) (h0 : 0 ≤ x) (h1 : x ≤ 4294967295) : indexR l k = .ok x (k + (lebL x).length) :=
  uintR_at h h0 (by show x < 4294967296; omega) (by omega) (by omega)
theorem countR_at {l r : List UInt8} {k : Nat} {x : Int} (h : l.drop k = lebL x ++ r) (h0 : 0 ≤ x) (h1 : x ≤ 10000) : countR l k = .ok x (k + (lebL x).length) := by
  unfold countR atMostR
  rw [indexR_at h h0 (by omega), Res.bind_ok, if_pos h1]
theorem valR_at {l r : List UInt8} {k : Nat} {c : UInt8} (h : l.drop k = c :: r) (hc : valueZ c.toNat = 0) : valR l k = .ok c (k + 1) := by
  unfold valR
  rw [byteR_at h, Res.bind_ok, if_pos hc]
theorem valuesZ_cons {c : UInt8} {t : List UInt8} (h : valuesZ (c :: t) = 0) : valueZ c.toNat = 0 ∧ valuesZ t = 0 := by
  unfold valuesZ at h
  by_cases hc : valueZ c.toNat = 0
  · rw [if_pos hc] at h; exact ⟨hc, h⟩
  · rw [if_neg hc] at h; exact absurd h hc
theorem valsK_at {l : List UInt8} : ∀ (t r : List UInt8) (k : Nat) (acc : List UInt8), l.drop k = t ++ r → valuesZ t = 0 → valsK l t.length k acc = .ok (acc ++ t) (k + t.length)
  | [], r, k, acc, _, _ => by simp [valsK]
  | c :: t, r, k, acc, h, hv => by
    obtain ⟨h1, h2⟩ := valuesZ_cons hv
    have hd : l.drop (k + 1) = t ++ r := drop_past (a := [c]) (by simpa using h)
    have ih := valsK_at t r (k + 1) (acc ++ [c]) hd h2
    show (valR l k).bind _ = _
    rw [valR_at (by simpa using h) h1, Res.bind_ok, ih, List.append_assoc]
    simp only [List.singleton_append, List.length_cons]
    congr 1
    omega
theorem valsR_at {l t r : List UInt8} {k : Nat} (h : l.drop k = lebL t.length ++ t ++ r) (hv : valuesZ t = 0) (hl : t.length ≤ 10000) : valsR l k = .ok t (k + (lebL t.length).length + t.length) := by
  unfold valsR
  rw [List.append_assoc] at h
  rw [countR_at h (by omega) (by omega), Res.bind_ok, Int.toNat_natCast, valsK_at t r _ [] (drop_past h) hv]
  rfl
theorem funcZ_zero {p r : List UInt8} (h : funcZ p r = 0) : p.length ≤ 1000 ∧ r.length ≤ 1 ∧ valuesZ p = 0 ∧ valuesZ r = 0 := by
  unfold funcZ at h
  by_cases h1 : 1000 < p.length ∨ 1 < r.length
  · rw [if_pos h1] at h; cases h
  · rw [if_neg h1] at h
    by_cases h2 : valuesZ p = 0
    · rw [if_pos h2] at h; exact ⟨by omega, by omega, h2, h⟩
    · rw [if_neg h2] at h; exact absurd h h2
theorem funcR_at {l p r s : List UInt8} {k : Nat} (h : l.drop k = encL p r ++ s) (hz : funcZ p r = 0) : funcR l k = .ok (p, r) (k + (encL p r).length) := by
  obtain ⟨h1, h2, h3, h4⟩ := funcZ_zero hz
  have e : l.drop k = 96 :: ((lebL p.length ++ p ++ (lebL r.length ++ r ++ s))) := by rw [h]; unfold encL; simp
  have d1 : l.drop (k + 1) = lebL p.length ++ p ++ (lebL r.length ++ r ++ s) := drop_past (a := [96]) (by simpa using e)
  have d2 : l.drop (k + 1 + (lebL p.length).length + p.length) = lebL r.length ++ r ++ s := by
    have := drop_past (a := lebL p.length ++ p) d1
    rw [List.length_append, ← Nat.add_assoc] at this
    exact this
  unfold funcR tagR
  rw [byteR_at e, Res.bind_ok, if_pos (by rfl), Res.bind_ok, valsR_at d1 h3 (by omega), Res.bind_ok, valsR_at d2 h4 (by omega), Res.bind_ok, if_pos hz]
  congr 1
  unfold encL
  simp only [List.length_append, List.length_cons, List.length_nil]
  omega
theorem flagR_at {l r : List UInt8} {k : Nat} (m : Bool) (h : l.drop k = (if m then 1 else 0) :: r) : flagR l k = .ok m (k + 1) := by
  unfold flagR
  rw [byteR_at h, Res.bind_ok]
  cases m
  · rfl
  · rfl
theorem limR_at {l s : List UInt8} {k : Nat} {a b : Int} {c : Bool} (h : l.drop k = encLim a b c ++ s) (a0 : 0 ≤ a) (a1 : a ≤ 4294967295) (b0 : 0 ≤ b) (b1 : b ≤ 4294967295) (hc : c = false → b = 0) :
    limR l k = .ok (a, b, c) (k + (encLim a b c).length) := by
  unfold limR
  cases c with
  | false =>
    obtain rfl := hc rfl
    have e : l.drop k = 0 :: (lebL a ++ s) := by rw [h]; unfold encLim; simp
    have d1 : l.drop (k + 1) = lebL a ++ s := drop_past (a := [0]) (by simpa using e)
    rw [flagR_at false (by simpa using e), Res.bind_ok, indexR_at d1 a0 a1, Res.bind_ok, if_neg (by simp)]
    congr 1
    unfold encLim
    simp only [Bool.false_eq_true, if_false, List.length_append, List.length_cons, List.length_nil]
    omega
  | true =>
    have e : l.drop k = 1 :: (lebL a ++ (lebL b ++ s)) := by rw [h]; unfold encLim; simp
    have d1 : l.drop (k + 1) = lebL a ++ (lebL b ++ s) := drop_past (a := [1]) (by simpa using e)
    have d2 := drop_past d1
    rw [flagR_at true (by simpa using e), Res.bind_ok, indexR_at d1 a0 a1, Res.bind_ok, if_pos rfl, indexR_at d2 b0 b1, Res.bind_ok]
    congr 1
    unfold encLim
    simp only [if_true, List.length_append, List.length_cons, List.length_nil]
    omega
theorem globR_at {l s : List UInt8} {k : Nat} {c : UInt8} {m : Bool} (h : l.drop k = encG c.toNat m ++ s) (hc : valueZ c.toNat = 0) : globR l k = .ok (c, m) (k + 2) := by
  have e : l.drop k = c :: ((if m then 1 else 0) :: s) := by rw [h]; unfold encG; simp
  have d1 : l.drop (k + 1) = (if m then 1 else 0) :: s := drop_past (a := [c]) (by simpa using e)
  unfold globR
  rw [valR_at e hc, Res.bind_ok, flagR_at m d1, Res.bind_ok]
end Go.Proofs.YtebgmfjgapmpfabGreatDoor
