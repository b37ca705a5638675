/- unicode/utf8.Valid at a slice of bytes. -/
import Derived.Test.YtcagnlafmakebaaDoorWord
import Derived.Deep.LoopGhost
import Derived.Deep.DeepMust
import Derived.Deep.CutBlock
import Derived.Deep.DeepCutAuto
namespace Go.Proofs.YtcagnlafmakebaaDoor
open Go.RowKit Go.Lib
set_option linter.unusedVariables false

theorem below_drewN {B : Nat} {a w : World} (h : Below B a w) : ∀ q, Below B a (w.drewN q)
  | 0 => h
  | q + 1 => (below_drewN h q).drew
set_option maxRecDepth 100000 in
theorem and7f : ∀ X : Fin 256, bits .and .u8 ((X.val : Nat) : Int) 7 = ((X.val % 8 : Nat) : Int) := by decide
theorem zero_bool {Z : Nat} (h : Z = 0) : ((Z : Int) == 0) = true := by simp [h]
theorem some_bool {Z : Nat} (h : ¬ Z = 0) : ((Z : Int) == 0) = false := by simp; omega

set_option maxHeartbeats 16000000 in
set_option maxRecDepth 1000000 in
theorem valid_slice (s : ByteArray) (b off cap : Nat) (w : World) (hs : s.size ≤ 1000000) (hcap : s.size ≤ cap) (hT : Tabs w) (hp : Bya w b off s) :
    Calls Tryd.prog 17 #[.slice (some ⟨b, off, none⟩) s.size cap] w fun e w' => e = .returned (.bool (validD s.data.toList)) ∧ Below w.heap.size w w' := by
  obtain ⟨ans, hans⟩ : ∃ ans, validD s.data.toList = ans := ⟨_, rfl⟩
  rw [hans]
  have hfull := run_full s.size cap b off hcap
  have R0 := Lib.hid (show Rest w b off s ans from ⟨hp, hans, hs⟩)
  clear hp hans
  go_enter Tryd.func17, Tryd.ntmps17
  go_wp2
  clear hfull
  go_loopg [0] (s.size + 1) (fun gk v wx => Below w.heap.size w wx ∧ ∃ (t : ByteArray) (o : Nat), v = .slice (some ⟨b, o, none⟩) t.size t.size ∧ Rest w b o t ans ∧ t.size < gk)
  case atStart => exact ⟨Below.refl _ _, s, off, rfl, R0.out, by omega⟩
  case round =>
    obtain ⟨hbw, t, o, rfl, hr, hg⟩ := hrel
    clear R0
    have hmost := hr.most
    by_cases h0 : 0 < t.size
    · obtain ⟨g, rfl⟩ : ∃ g, gk = g + 1 := ⟨gk - 1, by omega⟩
      obtain ⟨a0, l0, e0, c0⟩ := hr.lies.byte 0 h0
      rw [Nat.add_zero] at c0
      have hblt : b < w.heap.size := block_lt_of_cell c0
      have hblr : b < wr.heap.size := Nat.lt_of_lt_of_le hblt hbw.size
      have h00 : (0 : Int) < (t.size : Int) := by omega
      replace c0 : wr.cell? ⟨b, o, none⟩ = some (.int .u8 (a0 : Int)) := (hbw.cell (p := ⟨b, o, none⟩) hblt).trans c0
      by_cases hasc : a0 < 128
      · have ha : (a0 : Int) < 128 := by omega
        obtain ⟨o1, t1, hc1, hr1, hz1⟩ := hr.skip 1 1 rfl (by omega) (asc_one t h0 (by rw [e0]; exact hasc))
        have R1 := Lib.hid hr1
        have m1 := hr1.most
        clear hr e0
        by_cases c8 : 8 < t1.size
        · have i8 : (8 : Int) < (t1.size : Int) := by omega
          obtain ⟨A, Z, hwA, hand, hz8⟩ := hr1.one hblt hbw (by omega)
          have HA := Lib.hid hwA
          clear hwA hr1
          by_cases hZ : Z = 0
          · have hZb := zero_bool hZ
            obtain ⟨o2, t2, hc2, hr2, hz2⟩ := R1.out.skip 8 8 rfl (by omega) (hz8 hZ)
            have R2 := Lib.hid hr2
            have m2 := hr2.most
            clear hZ hz8 hr2
            go_wp2_with (go_at_call 21; go_must (refine (HA.out _ rfl).mono ?_; rintro e w1 ⟨rfl, q1, rfl⟩))
            have hb1 : Below w.heap.size w (wr.drewN q1) := below_drewN hbw q1
            generalize wr.drewN q1 = wq at hb1 ⊢
            clear HA hbw hand hZb
            by_cases c16 : 16 < t2.size
            · have i16 : (16 : Int) < (t2.size : Int) := by omega
              have i8' : (8 : Int) ≤ (t2.size : Int) := by omega
              obtain ⟨o3, t3, A, B, O, Z, hc3, hwA, hwB, hor, hand, hz16, hz3, _, _⟩ := R2.out.two hblt hb1 (by omega)
              have HA := Lib.hid hwA
              have HB := Lib.hid hwB
              clear hwA hwB
              by_cases hZ : Z = 0
              · as_aux_lemma =>
                  have hZb := zero_bool hZ
                  obtain ⟨o4, t4, hc4, hr4, hz4⟩ := R2.out.skip 16 16 rfl (by omega) (hz16 hZ)
                  have R4 := Lib.hid hr4
                  have m4 := hr4.most
                  clear hZ hz16 hr4
                  go_quiet (first | (go_at_call 21; (with_reducible refine Calls.quiet_of (HA.out _ ?_)); rfl) | (go_at_call 21; (with_reducible refine Calls.quiet_of (HB.out _ ?_)); rfl))
                  have hb2 : Below w.heap.size w (wq.drewN nq) := below_drewN hb1 nq
                  generalize wq.drewN nq = wq2 at hb2 ⊢
                  clear HA HB hb1 hor hand hZb
                  go_wp2
                  go_loopg [0] (t4.size + 1) (fun gi v wx => Below w.heap.size w wx ∧ ∃ (u : ByteArray) (p : Nat), v = .slice (some ⟨b, p, none⟩) u.size u.size ∧ Rest w b p u ans ∧ u.size < gi ∧ u.size ≤ t4.size)
                  case atStart => exact ⟨hb2, t4, o4, rfl, R4.out, by omega, Nat.le_refl _⟩
                  case round =>
                    obtain ⟨hbu, u, p, rfl, hru, hgi, hut⟩ := hrel
                    have RU := Lib.hid hru
                    have mu := hru.most
                    clear hru
                    by_cases c32 : 32 < u.size
                    · obtain ⟨gi, rfl⟩ : ∃ g2, gk = g2 + 1 := ⟨gk - 1, by omega⟩
                      have i32 : (32 : Int) < (u.size : Int) := by omega
                      have i8 : (8 : Int) ≤ (u.size : Int) := by omega
                      have i16 : (16 : Int) ≤ (u.size : Int) := by omega
                      have i24 : (24 : Int) ≤ (u.size : Int) := by omega
                      obtain ⟨p2, u2, p3, u3, p4, u4, A, B, C, D, O1, O2, O3, Z, ⟨k2, k3, k4⟩, ⟨hwA, hwB, hwC, hwD⟩, ⟨x1, x2, x3, x4⟩, hz32, _⟩ := RU.out.four hblt hbu (by omega)
                      have HA := Lib.hid hwA
                      have HB := Lib.hid hwB
                      have HC := Lib.hid hwC
                      have HD := Lib.hid hwD
                      clear hwA hwB hwC hwD
                      by_cases hZ : Z = 0
                      · have hZb := zero_bool hZ
                        obtain ⟨p5, u5, k5, hr5, hz5⟩ := RU.out.skip 32 32 rfl (by omega) (hz32 hZ)
                        have R5 := Lib.hid hr5
                        clear hZ hz32 hr5
                        go_wp2_with fail
                        go_quiet (first | (go_at_call 21; (with_reducible refine Calls.quiet_of (HA.out _ ?_)); rfl) | (go_at_call 21; (with_reducible refine Calls.quiet_of (HB.out _ ?_)); rfl) | (go_at_call 21; (with_reducible refine Calls.quiet_of (HC.out _ ?_)); rfl) | (go_at_call 21; (with_reducible refine Calls.quiet_of (HD.out _ ?_)); rfl))
                        go_wp2
                        go_roundg gi
                        case measure => omega
                        case rel => exact ⟨below_drewN hbu nq, u5, p5, rfl, R5.out, by omega, by omega⟩
                      · have hZb := some_bool hZ
                        clear hZ hz32
                        go_wp2_with fail
                        go_quiet (first | (go_at_call 21; (with_reducible refine Calls.quiet_of (HA.out _ ?_)); rfl) | (go_at_call 21; (with_reducible refine Calls.quiet_of (HB.out _ ?_)); rfl) | (go_at_call 21; (with_reducible refine Calls.quiet_of (HC.out _ ?_)); rfl) | (go_at_call 21; (with_reducible refine Calls.quiet_of (HD.out _ ?_)); rfl))
                        go_wp2
                        go_roundg g
                        case measure => omega
                        case rel => exact ⟨below_drewN hbu nq, u, p, rfl, RU.out, by omega⟩
                    · have i32 : decide ((32 : Int) < (u.size : Int)) = false := decide_eq_false (by omega)
                      have i32' : ¬ (32 : Int) < (u.size : Int) := by omega
                      go_wp2_with fail
                      go_quiet (fail)
                      go_wp2
                      go_roundg g
                      case measure => omega
                      case rel => exact ⟨below_drewN hbu nq, u, p, rfl, RU.out, by omega⟩
              · have hZb := some_bool hZ
                clear hZ hz16
                go_quiet (first | (go_at_call 21; (with_reducible refine Calls.quiet_of (HA.out _ ?_)); rfl) | (go_at_call 21; (with_reducible refine Calls.quiet_of (HB.out _ ?_)); rfl))
                go_wp2
                go_roundg g
                case measure => omega
                case rel => exact ⟨below_drewN hb1 nq, t2, o2, rfl, R2.out, by omega⟩
            · have i16 : decide ((16 : Int) < (t2.size : Int)) = false := decide_eq_false (by omega)
              have i16' : ¬ (16 : Int) < (t2.size : Int) := by omega
              go_quiet (fail)
              go_wp2
              go_roundg g
              case measure => omega
              case rel => exact ⟨below_drewN hb1 nq, t2, o2, rfl, R2.out, by omega⟩
          · have hZb := some_bool hZ
            clear hZ hz8
            go_wp2_with (go_at_call 21; go_must (refine (HA.out _ rfl).mono ?_; rintro e w1 ⟨rfl, q1, rfl⟩))
            go_roundg g
            case measure => omega
            case rel => exact ⟨below_drewN hbw q1, t1, o1, rfl, R1.out, by omega⟩
        · have i8 : ¬ (8 : Int) < (t1.size : Int) := by omega
          go_wp2
          go_roundg g
          case measure => omega
          case rel => exact ⟨hbw, t1, o1, rfl, R1.out, by omega⟩
      · have ha : ¬ (a0 : Int) < 128 := by omega
        have hne : t.data.toList ≠ [] := fun h => by rw [Lib.size_eq, h] at h0; simp at h0
        have hlead := validD_lead t.data.toList hne (by rw [Lib.getD_get!', e0]; omega)
        rw [Lib.getD_get!', Lib.getD_get!', Lib.getD_get!', Lib.getD_get!', e0, ← Lib.size_eq, hr.same] at hlead
        have hTr : Utf8Tabs 0 1 wr := Utf8Tabs_below hT hbw
        have hX := hTr.1 a0 l0
        have hXlt : firstT a0 < 256 := by rcases firstT_cases a0 with h | h | h | h | h | h | h | h | h <;> omega
        generalize firstT a0 = X at *
        have h7 : bits .and .u8 (X : Int) 7 = ((X % 8 : Nat) : Int) := and7f ⟨X, hXlt⟩
        obtain ⟨hlo, hhi⟩ := hTr.2 (X / 16) (by omega)
        rw [Nat.mul_comm] at hlo hhi
        generalize accLo (X / 16) = LO at *
        generalize accHi (X / 16) = HI at *
        obtain ⟨x1, hx1⟩ : ∃ x, (t.get! 1).toNat = x := ⟨_, rfl⟩
        obtain ⟨x2, hx2⟩ : ∃ x, (t.get! 2).toNat = x := ⟨_, rfl⟩
        obtain ⟨x3, hx3⟩ : ∃ x, (t.get! 3).toNat = x := ⟨_, rfl⟩
        have y1 : x1 < 256 := hx1 ▸ (t.get! 1).toNat_lt
        have y2 : x2 < 256 := hx2 ▸ (t.get! 2).toNat_lt
        have y3 : x3 < 256 := hx3 ▸ (t.get! 3).toNat_lt
        rw [hx1, hx2, hx3] at hlead
        have g1 : 1 < t.size → wr.cell? ⟨b, o + 1, none⟩ = some (.int .u8 (x1 : Int)) := fun h => by rw [← hx1]; exact hr.lies.below hbw hblt 1 h
        have g2 : 2 < t.size → wr.cell? ⟨b, o + 2, none⟩ = some (.int .u8 (x2 : Int)) := fun h => by rw [← hx2]; exact hr.lies.below hbw hblt 2 h
        have g3 : 3 < t.size → wr.cell? ⟨b, o + 3, none⟩ = some (.int .u8 (x3 : Int)) := fun h => by rw [← hx3]; exact hr.lies.below hbw hblt 3 h
        have G1 := Lib.hid g1
        have G2 := Lib.hid g2
        have G3 := Lib.hid g3
        have R := Lib.hid hr
        have HT := Lib.hid hT
        clear g1 g2 g3 hr hTr hT hne hx1 hx2 hx3 e0
        by_cases s2 : X % 8 = 2
        · as_aux_lemma =>
            rw [s2] at hlead h7
            have s2' : (X : Int) % 8 = 2 := by omega
            simp only [checkN, Nat.reduceEqDiff, if_true, if_false] at hlead
            go_upto_region 18 with fail
            go_cut [103] from 85 to 103 (fun c wx => (∃ v, c = .bool v ∧ v = decide (t.size < 2 ∨ x1 < LO ∨ HI < x1)) ∧ Below w.heap.size w wx)
            case first =>
              have ways : ((t.size : Int) < 2) ∨ (¬ (t.size : Int) < 2 ∧ (x1 : Int) < (LO : Int)) ∨ (¬ (t.size : Int) < 2 ∧ ¬ (x1 : Int) < (LO : Int) ∧ (HI : Int) < (x1 : Int)) ∨ (¬ (t.size : Int) < 2 ∧ ¬ (x1 : Int) < (LO : Int) ∧ ¬ (HI : Int) < (x1 : Int)) := by omega
              rcases ways with q0 | ⟨q0, q1⟩ | ⟨q0, q1, q2⟩ | ⟨q0, q1, q2⟩
              · have b : decide (t.size < 2 ∨ x1 < LO ∨ HI < x1) = true := decide_eq_true (by omega)
                have HBO := Lib.hid b
                clear b hlead
                go_quiet (fail)
                go_wp2
                go_meet
                exact ⟨⟨_, rfl, HBO.out.symm⟩, below_drewN (hbw.alloc hbw.size _) _⟩
              · have b : decide (t.size < 2 ∨ x1 < LO ∨ HI < x1) = true := decide_eq_true (by omega)
                have c1 := G1.out (by omega)
                have j1 : (1 : Int) < (t.size : Int) := by omega
                have HBO := Lib.hid b
                clear b hlead
                go_quiet (fail)
                go_wp2
                go_meet
                exact ⟨⟨_, rfl, HBO.out.symm⟩, below_drewN (hbw.alloc hbw.size _) _⟩
              · have b : decide (t.size < 2 ∨ x1 < LO ∨ HI < x1) = true := decide_eq_true (by omega)
                have c1 := G1.out (by omega)
                have j1 : (1 : Int) < (t.size : Int) := by omega
                have HBO := Lib.hid b
                clear b hlead
                go_quiet (fail)
                go_wp2
                go_meet
                exact ⟨⟨_, rfl, HBO.out.symm⟩, below_drewN (hbw.alloc hbw.size _) _⟩
              · have b : decide (t.size < 2 ∨ x1 < LO ∨ HI < x1) = false := decide_eq_false (by omega)
                have c1 := G1.out (by omega)
                have j1 : (1 : Int) < (t.size : Int) := by omega
                have HBO := Lib.hid b
                clear b hlead
                go_quiet (fail)
                go_wp2
                go_meet
                exact ⟨⟨_, rfl, HBO.out.symm⟩, below_drewN (hbw.alloc hbw.size _) _⟩
            case rest =>
              obtain ⟨⟨v, rfl, hv⟩, hbc⟩ := hcut
              by_cases hbad : t.size < 2 ∨ x1 < LO ∨ HI < x1
              · rw [if_pos hbad] at hlead
                rw [decide_eq_true hbad] at hv
                subst hv
                subst hlead
                clear hbad
                go_wp2
                go_ret
                exact ⟨rfl, hbc⟩
              · rw [if_neg hbad] at hlead
                rw [decide_eq_false hbad] at hv
                subst hv
                obtain ⟨o2, t2, hc2, hr2, hz2⟩ := R.out.cut 2 2 rfl (by omega) (by rw [Lib.ext_list]; exact hlead.symm.trans R.out.same.symm)
                have R2 := Lib.hid hr2
                clear hbad hlead hr2
                go_wp2
                go_roundg g
                case measure => omega
                case rel => exact ⟨hbc, t2, o2, rfl, R2.out, by omega⟩
        by_cases s3 : X % 8 = 3
        · as_aux_lemma =>
            rw [s3] at hlead h7
            have s3' : (X : Int) % 8 = 3 := by omega
            simp only [checkN, Nat.reduceEqDiff, if_true, if_false] at hlead
            go_upto_region 22 with fail
            go_cut [138] from 108 to 138 (fun c wx => (∃ v, c = .bool v ∧ v = decide (t.size < 3 ∨ x1 < LO ∨ HI < x1 ∨ x2 < 128 ∨ 191 < x2)) ∧ Below w.heap.size w wx)
            case first =>
              have ways : ((t.size : Int) < 3) ∨ (¬ (t.size : Int) < 3 ∧ (x1 : Int) < (LO : Int)) ∨ (¬ (t.size : Int) < 3 ∧ ¬ (x1 : Int) < (LO : Int) ∧ (HI : Int) < (x1 : Int)) ∨ (¬ (t.size : Int) < 3 ∧ ¬ (x1 : Int) < (LO : Int) ∧ ¬ (HI : Int) < (x1 : Int) ∧ (x2 : Int) < 128) ∨ (¬ (t.size : Int) < 3 ∧ ¬ (x1 : Int) < (LO : Int) ∧ ¬ (HI : Int) < (x1 : Int) ∧ ¬ (x2 : Int) < 128 ∧ (191 : Int) < (x2 : Int)) ∨ (¬ (t.size : Int) < 3 ∧ ¬ (x1 : Int) < (LO : Int) ∧ ¬ (HI : Int) < (x1 : Int) ∧ ¬ (x2 : Int) < 128 ∧ ¬ (191 : Int) < (x2 : Int)) := by omega
              rcases ways with q0 | ⟨q0, q1⟩ | ⟨q0, q1, q2⟩ | ⟨q0, q1, q2, q3⟩ | ⟨q0, q1, q2, q3, q4⟩ | ⟨q0, q1, q2, q3, q4⟩
              · have b : decide (t.size < 3 ∨ x1 < LO ∨ HI < x1 ∨ x2 < 128 ∨ 191 < x2) = true := decide_eq_true (by omega)
                have HBO := Lib.hid b
                clear b hlead
                go_quiet (fail)
                go_wp2
                go_meet
                exact ⟨⟨_, rfl, HBO.out.symm⟩, below_drewN (hbw.alloc hbw.size _) _⟩
              · have b : decide (t.size < 3 ∨ x1 < LO ∨ HI < x1 ∨ x2 < 128 ∨ 191 < x2) = true := decide_eq_true (by omega)
                have c1 := G1.out (by omega)
                have j1 : (1 : Int) < (t.size : Int) := by omega
                have c2 := G2.out (by omega)
                have j2 : (2 : Int) < (t.size : Int) := by omega
                have HBO := Lib.hid b
                clear b hlead
                go_quiet (fail)
                go_wp2
                go_meet
                exact ⟨⟨_, rfl, HBO.out.symm⟩, below_drewN (hbw.alloc hbw.size _) _⟩
              · have b : decide (t.size < 3 ∨ x1 < LO ∨ HI < x1 ∨ x2 < 128 ∨ 191 < x2) = true := decide_eq_true (by omega)
                have c1 := G1.out (by omega)
                have j1 : (1 : Int) < (t.size : Int) := by omega
                have c2 := G2.out (by omega)
                have j2 : (2 : Int) < (t.size : Int) := by omega
                have HBO := Lib.hid b
                clear b hlead
                go_quiet (fail)
                go_wp2
                go_meet
                exact ⟨⟨_, rfl, HBO.out.symm⟩, below_drewN (hbw.alloc hbw.size _) _⟩
              · have b : decide (t.size < 3 ∨ x1 < LO ∨ HI < x1 ∨ x2 < 128 ∨ 191 < x2) = true := decide_eq_true (by omega)
                have c1 := G1.out (by omega)
                have j1 : (1 : Int) < (t.size : Int) := by omega
                have c2 := G2.out (by omega)
                have j2 : (2 : Int) < (t.size : Int) := by omega
                have HBO := Lib.hid b
                clear b hlead
                go_quiet (fail)
                go_wp2
                go_meet
                exact ⟨⟨_, rfl, HBO.out.symm⟩, below_drewN (hbw.alloc hbw.size _) _⟩
              · have b : decide (t.size < 3 ∨ x1 < LO ∨ HI < x1 ∨ x2 < 128 ∨ 191 < x2) = true := decide_eq_true (by omega)
                have c1 := G1.out (by omega)
                have j1 : (1 : Int) < (t.size : Int) := by omega
                have c2 := G2.out (by omega)
                have j2 : (2 : Int) < (t.size : Int) := by omega
                have HBO := Lib.hid b
                clear b hlead
                go_quiet (fail)
                go_wp2
                go_meet
                exact ⟨⟨_, rfl, HBO.out.symm⟩, below_drewN (hbw.alloc hbw.size _) _⟩
              · have b : decide (t.size < 3 ∨ x1 < LO ∨ HI < x1 ∨ x2 < 128 ∨ 191 < x2) = false := decide_eq_false (by omega)
                have c1 := G1.out (by omega)
                have j1 : (1 : Int) < (t.size : Int) := by omega
                have c2 := G2.out (by omega)
                have j2 : (2 : Int) < (t.size : Int) := by omega
                have HBO := Lib.hid b
                clear b hlead
                go_quiet (fail)
                go_wp2
                go_meet
                exact ⟨⟨_, rfl, HBO.out.symm⟩, below_drewN (hbw.alloc hbw.size _) _⟩
            case rest =>
              obtain ⟨⟨v, rfl, hv⟩, hbc⟩ := hcut
              by_cases hbad : t.size < 3 ∨ x1 < LO ∨ HI < x1 ∨ x2 < 128 ∨ 191 < x2
              · rw [if_pos hbad] at hlead
                rw [decide_eq_true hbad] at hv
                subst hv
                subst hlead
                clear hbad
                go_wp2
                go_ret
                exact ⟨rfl, hbc⟩
              · rw [if_neg hbad] at hlead
                rw [decide_eq_false hbad] at hv
                subst hv
                obtain ⟨o2, t2, hc2, hr2, hz2⟩ := R.out.cut 3 3 rfl (by omega) (by rw [Lib.ext_list]; exact hlead.symm.trans R.out.same.symm)
                have R2 := Lib.hid hr2
                clear hbad hlead hr2
                go_wp2
                go_roundg g
                case measure => omega
                case rel => exact ⟨hbc, t2, o2, rfl, R2.out, by omega⟩
        by_cases s4 : X % 8 = 4
        · as_aux_lemma =>
            rw [s4] at hlead h7
            have s4' : (X : Int) % 8 = 4 := by omega
            simp only [checkN, Nat.reduceEqDiff, if_true, if_false] at hlead
            go_upto_region 26 with fail
            go_cut [185] from 143 to 185 (fun c wx => (∃ v, c = .bool v ∧ v = decide (t.size < 4 ∨ x1 < LO ∨ HI < x1 ∨ x2 < 128 ∨ 191 < x2 ∨ x3 < 128 ∨ 191 < x3)) ∧ Below w.heap.size w wx)
            case first =>
              have ways : ((t.size : Int) < 4) ∨ (¬ (t.size : Int) < 4 ∧ (x1 : Int) < (LO : Int)) ∨ (¬ (t.size : Int) < 4 ∧ ¬ (x1 : Int) < (LO : Int) ∧ (HI : Int) < (x1 : Int)) ∨ (¬ (t.size : Int) < 4 ∧ ¬ (x1 : Int) < (LO : Int) ∧ ¬ (HI : Int) < (x1 : Int) ∧ (x2 : Int) < 128) ∨ (¬ (t.size : Int) < 4 ∧ ¬ (x1 : Int) < (LO : Int) ∧ ¬ (HI : Int) < (x1 : Int) ∧ ¬ (x2 : Int) < 128 ∧ (191 : Int) < (x2 : Int)) ∨ (¬ (t.size : Int) < 4 ∧ ¬ (x1 : Int) < (LO : Int) ∧ ¬ (HI : Int) < (x1 : Int) ∧ ¬ (x2 : Int) < 128 ∧ ¬ (191 : Int) < (x2 : Int) ∧ (x3 : Int) < 128) ∨ (¬ (t.size : Int) < 4 ∧ ¬ (x1 : Int) < (LO : Int) ∧ ¬ (HI : Int) < (x1 : Int) ∧ ¬ (x2 : Int) < 128 ∧ ¬ (191 : Int) < (x2 : Int) ∧ ¬ (x3 : Int) < 128 ∧ (191 : Int) < (x3 : Int)) ∨ (¬ (t.size : Int) < 4 ∧ ¬ (x1 : Int) < (LO : Int) ∧ ¬ (HI : Int) < (x1 : Int) ∧ ¬ (x2 : Int) < 128 ∧ ¬ (191 : Int) < (x2 : Int) ∧ ¬ (x3 : Int) < 128 ∧ ¬ (191 : Int) < (x3 : Int)) := by omega
              rcases ways with q0 | ⟨q0, q1⟩ | ⟨q0, q1, q2⟩ | ⟨q0, q1, q2, q3⟩ | ⟨q0, q1, q2, q3, q4⟩ | ⟨q0, q1, q2, q3, q4, q5⟩ | ⟨q0, q1, q2, q3, q4, q5, q6⟩ | ⟨q0, q1, q2, q3, q4, q5, q6⟩
              · have b : decide (t.size < 4 ∨ x1 < LO ∨ HI < x1 ∨ x2 < 128 ∨ 191 < x2 ∨ x3 < 128 ∨ 191 < x3) = true := decide_eq_true (by omega)
                have HBO := Lib.hid b
                clear b hlead
                go_quiet (fail)
                go_wp2
                go_meet
                exact ⟨⟨_, rfl, HBO.out.symm⟩, below_drewN (hbw.alloc hbw.size _) _⟩
              · have b : decide (t.size < 4 ∨ x1 < LO ∨ HI < x1 ∨ x2 < 128 ∨ 191 < x2 ∨ x3 < 128 ∨ 191 < x3) = true := decide_eq_true (by omega)
                have c1 := G1.out (by omega)
                have j1 : (1 : Int) < (t.size : Int) := by omega
                have c2 := G2.out (by omega)
                have j2 : (2 : Int) < (t.size : Int) := by omega
                have c3 := G3.out (by omega)
                have j3 : (3 : Int) < (t.size : Int) := by omega
                have HBO := Lib.hid b
                clear b hlead
                go_quiet (fail)
                go_wp2
                go_meet
                exact ⟨⟨_, rfl, HBO.out.symm⟩, below_drewN (hbw.alloc hbw.size _) _⟩
              · have b : decide (t.size < 4 ∨ x1 < LO ∨ HI < x1 ∨ x2 < 128 ∨ 191 < x2 ∨ x3 < 128 ∨ 191 < x3) = true := decide_eq_true (by omega)
                have c1 := G1.out (by omega)
                have j1 : (1 : Int) < (t.size : Int) := by omega
                have c2 := G2.out (by omega)
                have j2 : (2 : Int) < (t.size : Int) := by omega
                have c3 := G3.out (by omega)
                have j3 : (3 : Int) < (t.size : Int) := by omega
                have HBO := Lib.hid b
                clear b hlead
                go_quiet (fail)
                go_wp2
                go_meet
                exact ⟨⟨_, rfl, HBO.out.symm⟩, below_drewN (hbw.alloc hbw.size _) _⟩
              · have b : decide (t.size < 4 ∨ x1 < LO ∨ HI < x1 ∨ x2 < 128 ∨ 191 < x2 ∨ x3 < 128 ∨ 191 < x3) = true := decide_eq_true (by omega)
                have c1 := G1.out (by omega)
                have j1 : (1 : Int) < (t.size : Int) := by omega
                have c2 := G2.out (by omega)
                have j2 : (2 : Int) < (t.size : Int) := by omega
                have c3 := G3.out (by omega)
                have j3 : (3 : Int) < (t.size : Int) := by omega
                have HBO := Lib.hid b
                clear b hlead
                go_quiet (fail)
                go_wp2
                go_meet
                exact ⟨⟨_, rfl, HBO.out.symm⟩, below_drewN (hbw.alloc hbw.size _) _⟩
              · have b : decide (t.size < 4 ∨ x1 < LO ∨ HI < x1 ∨ x2 < 128 ∨ 191 < x2 ∨ x3 < 128 ∨ 191 < x3) = true := decide_eq_true (by omega)
                have c1 := G1.out (by omega)
                have j1 : (1 : Int) < (t.size : Int) := by omega
                have c2 := G2.out (by omega)
                have j2 : (2 : Int) < (t.size : Int) := by omega
                have c3 := G3.out (by omega)
                have j3 : (3 : Int) < (t.size : Int) := by omega
                have HBO := Lib.hid b
                clear b hlead
                go_quiet (fail)
                go_wp2
                go_meet
                exact ⟨⟨_, rfl, HBO.out.symm⟩, below_drewN (hbw.alloc hbw.size _) _⟩
              · have b : decide (t.size < 4 ∨ x1 < LO ∨ HI < x1 ∨ x2 < 128 ∨ 191 < x2 ∨ x3 < 128 ∨ 191 < x3) = true := decide_eq_true (by omega)
                have c1 := G1.out (by omega)
                have j1 : (1 : Int) < (t.size : Int) := by omega
                have c2 := G2.out (by omega)
                have j2 : (2 : Int) < (t.size : Int) := by omega
                have c3 := G3.out (by omega)
                have j3 : (3 : Int) < (t.size : Int) := by omega
                have HBO := Lib.hid b
                clear b hlead
                go_quiet (fail)
                go_wp2
                go_meet
                exact ⟨⟨_, rfl, HBO.out.symm⟩, below_drewN (hbw.alloc hbw.size _) _⟩
              · have b : decide (t.size < 4 ∨ x1 < LO ∨ HI < x1 ∨ x2 < 128 ∨ 191 < x2 ∨ x3 < 128 ∨ 191 < x3) = true := decide_eq_true (by omega)
                have c1 := G1.out (by omega)
                have j1 : (1 : Int) < (t.size : Int) := by omega
                have c2 := G2.out (by omega)
                have j2 : (2 : Int) < (t.size : Int) := by omega
                have c3 := G3.out (by omega)
                have j3 : (3 : Int) < (t.size : Int) := by omega
                have HBO := Lib.hid b
                clear b hlead
                go_quiet (fail)
                go_wp2
                go_meet
                exact ⟨⟨_, rfl, HBO.out.symm⟩, below_drewN (hbw.alloc hbw.size _) _⟩
              · have b : decide (t.size < 4 ∨ x1 < LO ∨ HI < x1 ∨ x2 < 128 ∨ 191 < x2 ∨ x3 < 128 ∨ 191 < x3) = false := decide_eq_false (by omega)
                have c1 := G1.out (by omega)
                have j1 : (1 : Int) < (t.size : Int) := by omega
                have c2 := G2.out (by omega)
                have j2 : (2 : Int) < (t.size : Int) := by omega
                have c3 := G3.out (by omega)
                have j3 : (3 : Int) < (t.size : Int) := by omega
                have HBO := Lib.hid b
                clear b hlead
                go_quiet (fail)
                go_wp2
                go_meet
                exact ⟨⟨_, rfl, HBO.out.symm⟩, below_drewN (hbw.alloc hbw.size _) _⟩
            case rest =>
              obtain ⟨⟨v, rfl, hv⟩, hbc⟩ := hcut
              by_cases hbad : t.size < 4 ∨ x1 < LO ∨ HI < x1 ∨ x2 < 128 ∨ 191 < x2 ∨ x3 < 128 ∨ 191 < x3
              · rw [if_pos hbad] at hlead
                rw [decide_eq_true hbad] at hv
                subst hv
                subst hlead
                clear hbad
                go_wp2
                go_ret
                exact ⟨rfl, hbc⟩
              · rw [if_neg hbad] at hlead
                rw [decide_eq_false hbad] at hv
                subst hv
                obtain ⟨o2, t2, hc2, hr2, hz2⟩ := R.out.cut 4 4 rfl (by omega) (by rw [Lib.ext_list]; exact hlead.symm.trans R.out.same.symm)
                have R2 := Lib.hid hr2
                clear hbad hlead hr2
                go_wp2
                go_roundg g
                case measure => omega
                case rel => exact ⟨hbc, t2, o2, rfl, R2.out, by omega⟩
        · have n2 : ¬ (X : Int) % 8 = 2 := by omega
          have n3 : ¬ (X : Int) % 8 = 3 := by omega
          have n4 : ¬ (X : Int) % 8 = 4 := by omega
          have m2 : (((X : Int) % 8) == 2) = false := beq_eq_false_iff_ne.2 n2
          have m3 : (((X : Int) % 8) == 3) = false := beq_eq_false_iff_ne.2 n3
          have m4 : (((X : Int) % 8) == 4) = false := beq_eq_false_iff_ne.2 n4
          simp only [checkN, s2, s3, s4, if_false] at hlead
          subst hlead
          go_wp2
          go_ret
          exact ⟨rfl, hbw.alloc hbw.size _⟩
    · have h00 : ¬ (0 : Int) < (t.size : Int) := by omega
      have hsame := hr.same
      rw [show t.data.toList = [] from List.eq_nil_of_length_eq_zero (by rw [← Lib.size_eq]; omega), validD_nil] at hsame
      subst hsame
      clear hr
      go_wp2
      go_ret
      exact ⟨rfl, hbw⟩
end Go.Proofs.YtcagnlafmakebaaDoor
