/- unicode/utf8.Valid at a slice of bytes. -/
import Derived.Test.YtihpnplfklbgjaaDoorQd05
import Derived.Deep.LoopGhost
import Derived.Deep.DeepMust
import Derived.Deep.CutBlock
import Derived.Deep.DeepCutAuto
import Derived.Laws.IdiomStrings
import Derived.Test.YtihpnplfklbgjaaDoorQd02
import Derived.Test.YtihpnplfklbgjaaDoorQd04
namespace Go.Proofs.YtihpnplfklbgjaaDoor
set_option maxRecDepth 100000
open Go.RowKit Go.Lib
set_option linter.unusedVariables false

theorem below_drewV {B : Nat} {a w : World} (h : Below B a w) : ∀ q, Below B a (w.drewN q)
  | 0 => h
  | q + 1 => (below_drewV h q).drew
set_option maxRecDepth 100000 in
theorem and7f : ∀ X : Fin 256, bits .and .u8 ((X.val : Nat) : Int) 7 = ((X.val % 8 : Nat) : Int) := by decide
theorem zero_bool {Z : Nat} (h : Z = 0) : ((Z : Int) == 0) = true := by simp [h]
theorem some_bool {Z : Nat} (h : ¬ Z = 0) : ((Z : Int) == 0) = false := by simp; omega

set_option maxHeartbeats 16000000 in
set_option maxRecDepth 1000000 in
theorem valid_slice (s : ByteArray) (b off cap : Nat) (w : World) (hs : s.size ≤ 1000000) (hcap : s.size ≤ cap) (hT : TabsU w) (hp : Bya w b off s) :
    Calls Tryd.prog 129 #[.slice (some ⟨b, off, none⟩) s.size cap] w fun e w' => e = .returned (.bool (validD s.data.toList)) ∧ Below w.heap.size w w' := by
  obtain ⟨ans, hans⟩ : ∃ ans, validD s.data.toList = ans := ⟨_, rfl⟩
  rw [hans]
  have hfull := run_full s.size cap b off hcap
  have R0 := Lib.hid (show Rest w b off s ans from ⟨hp, hans, hs⟩)
  clear hp hans
  go_enter Tryd.func129, Tryd.ntmps129
  go_wp2
  clear hfull
  go_loopg [0] (s.size + 1) (fun gk v wx => Below w.heap.size w wx ∧ ∃ (t : ByteArray) (o : Nat), v = .slice (some ⟨b, o, none⟩) t.size t.size ∧ Rest w b o t ans ∧ t.size < gk)
  case atStart => exact ⟨Below.refl _ _, s, off, rfl, R0.out, by omega⟩
  case round =>
    obtain ⟨hbw, t, o, rfl, hr, hg⟩ := hrel
    clear R0
    have hmost := hr.most
    by_cases h0 : 0 < t.size
    · obtain ⟨g, rfl⟩ : ∃ g, gk = g + 1 := ⟨gk - 1, by omega⟩
      obtain ⟨a0, l0, e0, c0⟩ := hr.lies.byte 0 h0
      rw [Nat.add_zero] at c0
      have hblt : b < w.heap.size := block_lt_of_cell c0
      have hblr : b < wr.heap.size := Nat.lt_of_lt_of_le hblt hbw.size
      have h00 : (0 : Int) < (t.size : Int) := by omega
      replace c0 : wr.cell? ⟨b, o, none⟩ = some (.int .u8 (a0 : Int)) := (hbw.cell (p := ⟨b, o, none⟩) hblt).trans c0
      by_cases hasc : a0 < 128
      · have ha : (a0 : Int) < 128 := by omega
        obtain ⟨o1, t1, hc1, hr1, hz1⟩ := hr.skip 1 1 rfl (by omega) (asc_one t h0 (by rw [e0]; exact hasc))
        have R1 := Lib.hid hr1
        have m1 := hr1.most
        clear hr e0
        by_cases c8 : 8 < t1.size
        · have i8 : (8 : Int) < (t1.size : Int) := by omega
          obtain ⟨A, Z, hwA, hand, hz8⟩ := hr1.one hblt hbw (by omega)
          have HA := Lib.hid hwA
          clear hwA hr1
          by_cases hZ : Z = 0
          · have hZb := zero_bool hZ
            obtain ⟨o2, t2, hc2, hr2, hz2⟩ := R1.out.skip 8 8 rfl (by omega) (hz8 hZ)
            have R2 := Lib.hid hr2
            have m2 := hr2.most
            clear hZ hz8 hr2
            go_wp2_with (go_at_call 132; go_must (refine (HA.out _ rfl).mono ?_; rintro e w1 ⟨rfl, q1, rfl⟩))
            have hb1 : Below w.heap.size w (wr.drewN q1) := below_drewV hbw q1
            generalize wr.drewN q1 = wq at hb1 ⊢
            clear HA hbw hand hZb
            by_cases c16 : 16 < t2.size
            · have i16 : (16 : Int) < (t2.size : Int) := by omega
              have i8' : (8 : Int) ≤ (t2.size : Int) := by omega
              obtain ⟨o3, t3, A, B, O, Z, hc3, hwA, hwB, hor, hand, hz16, hz3, _, _⟩ := R2.out.two hblt hb1 (by omega)
              have HA := Lib.hid hwA
              have HB := Lib.hid hwB
              clear hwA hwB
              by_cases hZ : Z = 0
              · as_aux_lemma =>
                  have hZb := zero_bool hZ
                  obtain ⟨o4, t4, hc4, hr4, hz4⟩ := R2.out.skip 16 16 rfl (by omega) (hz16 hZ)
                  have R4 := Lib.hid hr4
                  have m4 := hr4.most
                  clear hZ hz16 hr4
                  go_quiet (first | (go_at_call 132; (with_reducible refine Calls.quiet_of (HA.out _ ?_)); rfl) | (go_at_call 132; (with_reducible refine Calls.quiet_of (HB.out _ ?_)); rfl))
                  have hb2 : Below w.heap.size w (wq.drewN nq) := below_drewV hb1 nq
                  generalize wq.drewN nq = wq2 at hb2 ⊢
                  clear HA HB hb1 hor hand hZb
                  go_wp2
                  go_loopg [0] (t4.size + 1) (fun gi v wx => Below w.heap.size w wx ∧ ∃ (u : ByteArray) (p : Nat), v = .slice (some ⟨b, p, none⟩) u.size u.size ∧ Rest w b p u ans ∧ u.size < gi ∧ u.size ≤ t4.size)
                  case atStart => exact ⟨hb2, t4, o4, rfl, R4.out, by omega, Nat.le_refl _⟩
                  case round =>
                    obtain ⟨hbu, u, p, rfl, hru, hgi, hut⟩ := hrel
                    have RU := Lib.hid hru
                    have mu := hru.most
                    clear hru
                    by_cases c32 : 32 < u.size
                    · obtain ⟨gi, rfl⟩ : ∃ g2, gk = g2 + 1 := ⟨gk - 1, by omega⟩
                      have i32 : (32 : Int) < (u.size : Int) := by omega
                      have i8 : (8 : Int) ≤ (u.size : Int) := by omega
                      have i16 : (16 : Int) ≤ (u.size : Int) := by omega
                      have i24 : (24 : Int) ≤ (u.size : Int) := by omega
                      obtain ⟨p2, u2, p3, u3, p4, u4, A, B, C, D, O1, O2, O3, Z, ⟨k2, k3, k4⟩, ⟨hwA, hwB, hwC, hwD⟩, ⟨x1, x2, x3, x4⟩, hz32, _⟩ := RU.out.four hblt hbu (by omega)
                      have HA := Lib.hid hwA
                      have HB := Lib.hid hwB
                      have HC := Lib.hid hwC
                      have HD := Lib.hid hwD
                      clear hwA hwB hwC hwD
                      by_cases hZ : Z = 0
                      · have hZb := zero_bool hZ
                        obtain ⟨p5, u5, k5, hr5, hz5⟩ := RU.out.skip 32 32 rfl (by omega) (hz32 hZ)
                        have R5 := Lib.hid hr5
                        clear hZ hz32 hr5
                        go_wp2_with fail
                        go_quiet (first | (go_at_call 132; (with_reducible refine Calls.quiet_of (HA.out _ ?_)); rfl) | (go_at_call 132; (with_reducible refine Calls.quiet_of (HB.out _ ?_)); rfl) | (go_at_call 132; (with_reducible refine Calls.quiet_of (HC.out _ ?_)); rfl) | (go_at_call 132; (with_reducible refine Calls.quiet_of (HD.out _ ?_)); rfl))
                        go_wp2
                        go_roundg gi
                        case measure => omega
                        case rel => exact ⟨below_drewV hbu nq, u5, p5, rfl, R5.out, by omega, by omega⟩
                      · have hZb := some_bool hZ
                        clear hZ hz32
                        go_wp2_with fail
                        go_quiet (first | (go_at_call 132; (with_reducible refine Calls.quiet_of (HA.out _ ?_)); rfl) | (go_at_call 132; (with_reducible refine Calls.quiet_of (HB.out _ ?_)); rfl) | (go_at_call 132; (with_reducible refine Calls.quiet_of (HC.out _ ?_)); rfl) | (go_at_call 132; (with_reducible refine Calls.quiet_of (HD.out _ ?_)); rfl))
                        go_wp2
                        go_roundg g
                        case measure => omega
                        case rel => exact ⟨below_drewV hbu nq, u, p, rfl, RU.out, by omega⟩
                    · have i32 : decide ((32 : Int) < (u.size : Int)) = false := decide_eq_false (by omega)
                      have i32' : ¬ (32 : Int) < (u.size : Int) := by omega
                      go_wp2_with fail
                      go_quiet (fail)
                      go_wp2
                      go_roundg g
                      case measure => omega
                      case rel => exact ⟨below_drewV hbu nq, u, p, rfl, RU.out, by omega⟩
              · have hZb := some_bool hZ
                clear hZ hz16
                go_quiet (first | (go_at_call 132; (with_reducible refine Calls.quiet_of (HA.out _ ?_)); rfl) | (go_at_call 132; (with_reducible refine Calls.quiet_of (HB.out _ ?_)); rfl))
                go_wp2
                go_roundg g
                case measure => omega
                case rel => exact ⟨below_drewV hb1 nq, t2, o2, rfl, R2.out, by omega⟩
            · have i16 : decide ((16 : Int) < (t2.size : Int)) = false := decide_eq_false (by omega)
              have i16' : ¬ (16 : Int) < (t2.size : Int) := by omega
              go_quiet (fail)
              go_wp2
              go_roundg g
              case measure => omega
              case rel => exact ⟨below_drewV hb1 nq, t2, o2, rfl, R2.out, by omega⟩
          · have hZb := some_bool hZ
            clear hZ hz8
            go_wp2_with (go_at_call 132; go_must (refine (HA.out _ rfl).mono ?_; rintro e w1 ⟨rfl, q1, rfl⟩))
            go_roundg g
            case measure => omega
            case rel => exact ⟨below_drewV hbw q1, t1, o1, rfl, R1.out, by omega⟩
        · have i8 : ¬ (8 : Int) < (t1.size : Int) := by omega
          go_wp2
          go_roundg g
          case measure => omega
          case rel => exact ⟨hbw, t1, o1, rfl, R1.out, by omega⟩
      · have ha : ¬ (a0 : Int) < 128 := by omega
        have hne : t.data.toList ≠ [] := fun h => by rw [Lib.size_eq, h] at h0; simp at h0
        have hlead := validD_lead t.data.toList hne (by rw [Lib.getD_get!', e0]; omega)
        rw [Lib.getD_get!', Lib.getD_get!', Lib.getD_get!', Lib.getD_get!', e0, ← Lib.size_eq, hr.same] at hlead
        have hTr : Utf8Tabs 0 1 wr := Utf8Tabs_below hT hbw
        have hX := hTr.1 a0 l0
        have hXlt : firstT a0 < 256 := by rcases firstT_cases a0 with h | h | h | h | h | h | h | h | h <;> omega
        generalize firstT a0 = X at *
        have h7 : bits .and .u8 (X : Int) 7 = ((X % 8 : Nat) : Int) := and7f ⟨X, hXlt⟩
        obtain ⟨hlo, hhi⟩ := hTr.2 (X / 16) (by omega)
        rw [Nat.mul_comm] at hlo hhi
        generalize accLo (X / 16) = LO at *
        generalize accHi (X / 16) = HI at *
        obtain ⟨x1, hx1⟩ : ∃ x, (t.get! 1).toNat = x := ⟨_, rfl⟩
        obtain ⟨x2, hx2⟩ : ∃ x, (t.get! 2).toNat = x := ⟨_, rfl⟩
        obtain ⟨x3, hx3⟩ : ∃ x, (t.get! 3).toNat = x := ⟨_, rfl⟩
        have y1 : x1 < 256 := hx1 ▸ (t.get! 1).toNat_lt
        have y2 : x2 < 256 := hx2 ▸ (t.get! 2).toNat_lt
        have y3 : x3 < 256 := hx3 ▸ (t.get! 3).toNat_lt
        rw [hx1, hx2, hx3] at hlead
        have g1 : 1 < t.size → wr.cell? ⟨b, o + 1, none⟩ = some (.int .u8 (x1 : Int)) := fun h => by rw [← hx1]; exact hr.lies.below hbw hblt 1 h
        have g2 : 2 < t.size → wr.cell? ⟨b, o + 2, none⟩ = some (.int .u8 (x2 : Int)) := fun h => by rw [← hx2]; exact hr.lies.below hbw hblt 2 h
        have g3 : 3 < t.size → wr.cell? ⟨b, o + 3, none⟩ = some (.int .u8 (x3 : Int)) := fun h => by rw [← hx3]; exact hr.lies.below hbw hblt 3 h
        have G1 := Lib.hid g1
        have G2 := Lib.hid g2
        have G3 := Lib.hid g3
        have R := Lib.hid hr
        have HT := Lib.hid hT
        clear g1 g2 g3 hr hTr hT hne hx1 hx2 hx3 e0
        by_cases s2 : X % 8 = 2
        · as_aux_lemma =>
            rw [s2] at hlead h7
            have s2' : (X : Int) % 8 = 2 := by omega
            simp only [checkN, Nat.reduceEqDiff, if_true, if_false] at hlead
            go_upto_region 18 with fail
            go_cut [103] from 85 to 103 (fun c wx => (∃ v, c = .bool v ∧ v = decide (t.size < 2 ∨ x1 < LO ∨ HI < x1)) ∧ Below w.heap.size w wx)
            case first =>
              have ways : ((t.size : Int) < 2) ∨ (¬ (t.size : Int) < 2 ∧ (x1 : Int) < (LO : Int)) ∨ (¬ (t.size : Int) < 2 ∧ ¬ (x1 : Int) < (LO : Int) ∧ (HI : Int) < (x1 : Int)) ∨ (¬ (t.size : Int) < 2 ∧ ¬ (x1 : Int) < (LO : Int) ∧ ¬ (HI : Int) < (x1 : Int)) := by omega
              rcases ways with q0 | ⟨q0, q1⟩ | ⟨q0, q1, q2⟩ | ⟨q0, q1, q2⟩
              · have b : decide (t.size < 2 ∨ x1 < LO ∨ HI < x1) = true := decide_eq_true (by omega)
                have HBO := Lib.hid b
                clear b hlead
                go_quiet (fail)
                go_wp2
                go_meet
                exact ⟨⟨_, rfl, HBO.out.symm⟩, below_drewV (hbw.alloc hbw.size _) _⟩
              · have b : decide (t.size < 2 ∨ x1 < LO ∨ HI < x1) = true := decide_eq_true (by omega)
                have c1 := G1.out (by omega)
                have j1 : (1 : Int) < (t.size : Int) := by omega
                have HBO := Lib.hid b
                clear b hlead
                go_quiet (fail)
                go_wp2
                go_meet
                exact ⟨⟨_, rfl, HBO.out.symm⟩, below_drewV (hbw.alloc hbw.size _) _⟩
              · have b : decide (t.size < 2 ∨ x1 < LO ∨ HI < x1) = true := decide_eq_true (by omega)
                have c1 := G1.out (by omega)
                have j1 : (1 : Int) < (t.size : Int) := by omega
                have HBO := Lib.hid b
                clear b hlead
                go_quiet (fail)
                go_wp2
                go_meet
                exact ⟨⟨_, rfl, HBO.out.symm⟩, below_drewV (hbw.alloc hbw.size _) _⟩
              · have b : decide (t.size < 2 ∨ x1 < LO ∨ HI < x1) = false := decide_eq_false (by omega)
                have c1 := G1.out (by omega)
                have j1 : (1 : Int) < (t.size : Int) := by omega
                have HBO := Lib.hid b
                clear b hlead
                go_quiet (fail)
                go_wp2
                go_meet
                exact ⟨⟨_, rfl, HBO.out.symm⟩, below_drewV (hbw.alloc hbw.size _) _⟩
            case rest =>
              obtain ⟨⟨v, rfl, hv⟩, hbc⟩ := hcut
              by_cases hbad : t.size < 2 ∨ x1 < LO ∨ HI < x1
              · rw [if_pos hbad] at hlead
                rw [decide_eq_true hbad] at hv
                subst hv
                subst hlead
                clear hbad
                go_wp2
                go_ret
                exact ⟨rfl, hbc⟩
              · rw [if_neg hbad] at hlead
                rw [decide_eq_false hbad] at hv
                subst hv
                obtain ⟨o2, t2, hc2, hr2, hz2⟩ := R.out.cut 2 2 rfl (by omega) (by rw [Lib.ext_list]; exact hlead.symm.trans R.out.same.symm)
                have R2 := Lib.hid hr2
                clear hbad hlead hr2
                go_wp2
                go_roundg g
                case measure => omega
                case rel => exact ⟨hbc, t2, o2, rfl, R2.out, by omega⟩
        by_cases s3 : X % 8 = 3
        · as_aux_lemma =>
            rw [s3] at hlead h7
            have s3' : (X : Int) % 8 = 3 := by omega
            simp only [checkN, Nat.reduceEqDiff, if_true, if_false] at hlead
            go_upto_region 22 with fail
            go_cut [138] from 108 to 138 (fun c wx => (∃ v, c = .bool v ∧ v = decide (t.size < 3 ∨ x1 < LO ∨ HI < x1 ∨ x2 < 128 ∨ 191 < x2)) ∧ Below w.heap.size w wx)
            case first =>
              have ways : ((t.size : Int) < 3) ∨ (¬ (t.size : Int) < 3 ∧ (x1 : Int) < (LO : Int)) ∨ (¬ (t.size : Int) < 3 ∧ ¬ (x1 : Int) < (LO : Int) ∧ (HI : Int) < (x1 : Int)) ∨ (¬ (t.size : Int) < 3 ∧ ¬ (x1 : Int) < (LO : Int) ∧ ¬ (HI : Int) < (x1 : Int) ∧ (x2 : Int) < 128) ∨ (¬ (t.size : Int) < 3 ∧ ¬ (x1 : Int) < (LO : Int) ∧ ¬ (HI : Int) < (x1 : Int) ∧ ¬ (x2 : Int) < 128 ∧ (191 : Int) < (x2 : Int)) ∨ (¬ (t.size : Int) < 3 ∧ ¬ (x1 : Int) < (LO : Int) ∧ ¬ (HI : Int) < (x1 : Int) ∧ ¬ (x2 : Int) < 128 ∧ ¬ (191 : Int) < (x2 : Int)) := by omega
              rcases ways with q0 | ⟨q0, q1⟩ | ⟨q0, q1, q2⟩ | ⟨q0, q1, q2, q3⟩ | ⟨q0, q1, q2, q3, q4⟩ | ⟨q0, q1, q2, q3, q4⟩
              · have b : decide (t.size < 3 ∨ x1 < LO ∨ HI < x1 ∨ x2 < 128 ∨ 191 < x2) = true := decide_eq_true (by omega)
                have HBO := Lib.hid b
                clear b hlead
                go_quiet (fail)
                go_wp2
                go_meet
                exact ⟨⟨_, rfl, HBO.out.symm⟩, below_drewV (hbw.alloc hbw.size _) _⟩
              · have b : decide (t.size < 3 ∨ x1 < LO ∨ HI < x1 ∨ x2 < 128 ∨ 191 < x2) = true := decide_eq_true (by omega)
                have c1 := G1.out (by omega)
                have j1 : (1 : Int) < (t.size : Int) := by omega
                have c2 := G2.out (by omega)
                have j2 : (2 : Int) < (t.size : Int) := by omega
                have HBO := Lib.hid b
                clear b hlead
                go_quiet (fail)
                go_wp2
                go_meet
                exact ⟨⟨_, rfl, HBO.out.symm⟩, below_drewV (hbw.alloc hbw.size _) _⟩
              · have b : decide (t.size < 3 ∨ x1 < LO ∨ HI < x1 ∨ x2 < 128 ∨ 191 < x2) = true := decide_eq_true (by omega)
                have c1 := G1.out (by omega)
                have j1 : (1 : Int) < (t.size : Int) := by omega
                have c2 := G2.out (by omega)
                have j2 : (2 : Int) < (t.size : Int) := by omega
                have HBO := Lib.hid b
                clear b hlead
                go_quiet (fail)
                go_wp2
                go_meet
                exact ⟨⟨_, rfl, HBO.out.symm⟩, below_drewV (hbw.alloc hbw.size _) _⟩
              · have b : decide (t.size < 3 ∨ x1 < LO ∨ HI < x1 ∨ x2 < 128 ∨ 191 < x2) = true := decide_eq_true (by omega)
                have c1 := G1.out (by omega)
                have j1 : (1 : Int) < (t.size : Int) := by omega
                have c2 := G2.out (by omega)
                have j2 : (2 : Int) < (t.size : Int) := by omega
                have HBO := Lib.hid b
                clear b hlead
                go_quiet (fail)
                go_wp2
                go_meet
                exact ⟨⟨_, rfl, HBO.out.symm⟩, below_drewV (hbw.alloc hbw.size _) _⟩
              · have b : decide (t.size < 3 ∨ x1 < LO ∨ HI < x1 ∨ x2 < 128 ∨ 191 < x2) = true := decide_eq_true (by omega)
                have c1 := G1.out (by omega)
                have j1 : (1 : Int) < (t.size : Int) := by omega
                have c2 := G2.out (by omega)
                have j2 : (2 : Int) < (t.size : Int) := by omega
                have HBO := Lib.hid b
                clear b hlead
                go_quiet (fail)
                go_wp2
                go_meet
                exact ⟨⟨_, rfl, HBO.out.symm⟩, below_drewV (hbw.alloc hbw.size _) _⟩
              · have b : decide (t.size < 3 ∨ x1 < LO ∨ HI < x1 ∨ x2 < 128 ∨ 191 < x2) = false := decide_eq_false (by omega)
                have c1 := G1.out (by omega)
                have j1 : (1 : Int) < (t.size : Int) := by omega
                have c2 := G2.out (by omega)
                have j2 : (2 : Int) < (t.size : Int) := by omega
                have HBO := Lib.hid b
                clear b hlead
                go_quiet (fail)
                go_wp2
                go_meet
                exact ⟨⟨_, rfl, HBO.out.symm⟩, below_drewV (hbw.alloc hbw.size _) _⟩
            case rest =>
              obtain ⟨⟨v, rfl, hv⟩, hbc⟩ := hcut
              by_cases hbad : t.size < 3 ∨ x1 < LO ∨ HI < x1 ∨ x2 < 128 ∨ 191 < x2
              · rw [if_pos hbad] at hlead
                rw [decide_eq_true hbad] at hv
                subst hv
                subst hlead
                clear hbad
                go_wp2
                go_ret
                exact ⟨rfl, hbc⟩
              · rw [if_neg hbad] at hlead
                rw [decide_eq_false hbad] at hv
                subst hv
                obtain ⟨o2, t2, hc2, hr2, hz2⟩ := R.out.cut 3 3 rfl (by omega) (by rw [Lib.ext_list]; exact hlead.symm.trans R.out.same.symm)
                have R2 := Lib.hid hr2
                clear hbad hlead hr2
                go_wp2
                go_roundg g
                case measure => omega
                case rel => exact ⟨hbc, t2, o2, rfl, R2.out, by omega⟩
        by_cases s4 : X % 8 = 4
        · as_aux_lemma =>
            rw [s4] at hlead h7
            have s4' : (X : Int) % 8 = 4 := by omega
            simp only [checkN, Nat.reduceEqDiff, if_true, if_false] at hlead
            go_upto_region 26 with fail
            go_cut [185] from 143 to 185 (fun c wx => (∃ v, c = .bool v ∧ v = decide (t.size < 4 ∨ x1 < LO ∨ HI < x1 ∨ x2 < 128 ∨ 191 < x2 ∨ x3 < 128 ∨ 191 < x3)) ∧ Below w.heap.size w wx)
            case first =>
              have ways : ((t.size : Int) < 4) ∨ (¬ (t.size : Int) < 4 ∧ (x1 : Int) < (LO : Int)) ∨ (¬ (t.size : Int) < 4 ∧ ¬ (x1 : Int) < (LO : Int) ∧ (HI : Int) < (x1 : Int)) ∨ (¬ (t.size : Int) < 4 ∧ ¬ (x1 : Int) < (LO : Int) ∧ ¬ (HI : Int) < (x1 : Int) ∧ (x2 : Int) < 128) ∨ (¬ (t.size : Int) < 4 ∧ ¬ (x1 : Int) < (LO : Int) ∧ ¬ (HI : Int) < (x1 : Int) ∧ ¬ (x2 : Int) < 128 ∧ (191 : Int) < (x2 : Int)) ∨ (¬ (t.size : Int) < 4 ∧ ¬ (x1 : Int) < (LO : Int) ∧ ¬ (HI : Int) < (x1 : Int) ∧ ¬ (x2 : Int) < 128 ∧ ¬ (191 : Int) < (x2 : Int) ∧ (x3 : Int) < 128) ∨ (¬ (t.size : Int) < 4 ∧ ¬ (x1 : Int) < (LO : Int) ∧ ¬ (HI : Int) < (x1 : Int) ∧ ¬ (x2 : Int) < 128 ∧ ¬ (191 : Int) < (x2 : Int) ∧ ¬ (x3 : Int) < 128 ∧ (191 : Int) < (x3 : Int)) ∨ (¬ (t.size : Int) < 4 ∧ ¬ (x1 : Int) < (LO : Int) ∧ ¬ (HI : Int) < (x1 : Int) ∧ ¬ (x2 : Int) < 128 ∧ ¬ (191 : Int) < (x2 : Int) ∧ ¬ (x3 : Int) < 128 ∧ ¬ (191 : Int) < (x3 : Int)) := by omega
              rcases ways with q0 | ⟨q0, q1⟩ | ⟨q0, q1, q2⟩ | ⟨q0, q1, q2, q3⟩ | ⟨q0, q1, q2, q3, q4⟩ | ⟨q0, q1, q2, q3, q4, q5⟩ | ⟨q0, q1, q2, q3, q4, q5, q6⟩ | ⟨q0, q1, q2, q3, q4, q5, q6⟩
              · have b : decide (t.size < 4 ∨ x1 < LO ∨ HI < x1 ∨ x2 < 128 ∨ 191 < x2 ∨ x3 < 128 ∨ 191 < x3) = true := decide_eq_true (by omega)
                have HBO := Lib.hid b
                clear b hlead
                go_quiet (fail)
                go_wp2
                go_meet
                exact ⟨⟨_, rfl, HBO.out.symm⟩, below_drewV (hbw.alloc hbw.size _) _⟩
              · have b : decide (t.size < 4 ∨ x1 < LO ∨ HI < x1 ∨ x2 < 128 ∨ 191 < x2 ∨ x3 < 128 ∨ 191 < x3) = true := decide_eq_true (by omega)
                have c1 := G1.out (by omega)
                have j1 : (1 : Int) < (t.size : Int) := by omega
                have c2 := G2.out (by omega)
                have j2 : (2 : Int) < (t.size : Int) := by omega
                have c3 := G3.out (by omega)
                have j3 : (3 : Int) < (t.size : Int) := by omega
                have HBO := Lib.hid b
                clear b hlead
                go_quiet (fail)
                go_wp2
                go_meet
                exact ⟨⟨_, rfl, HBO.out.symm⟩, below_drewV (hbw.alloc hbw.size _) _⟩
              · have b : decide (t.size < 4 ∨ x1 < LO ∨ HI < x1 ∨ x2 < 128 ∨ 191 < x2 ∨ x3 < 128 ∨ 191 < x3) = true := decide_eq_true (by omega)
                have c1 := G1.out (by omega)
                have j1 : (1 : Int) < (t.size : Int) := by omega
                have c2 := G2.out (by omega)
                have j2 : (2 : Int) < (t.size : Int) := by omega
                have c3 := G3.out (by omega)
                have j3 : (3 : Int) < (t.size : Int) := by omega
                have HBO := Lib.hid b
                clear b hlead
                go_quiet (fail)
                go_wp2
                go_meet
                exact ⟨⟨_, rfl, HBO.out.symm⟩, below_drewV (hbw.alloc hbw.size _) _⟩
              · have b : decide (t.size < 4 ∨ x1 < LO ∨ HI < x1 ∨ x2 < 128 ∨ 191 < x2 ∨ x3 < 128 ∨ 191 < x3) = true := decide_eq_true (by omega)
                have c1 := G1.out (by omega)
                have j1 : (1 : Int) < (t.size : Int) := by omega
                have c2 := G2.out (by omega)
                have j2 : (2 : Int) < (t.size : Int) := by omega
                have c3 := G3.out (by omega)
                have j3 : (3 : Int) < (t.size : Int) := by omega
                have HBO := Lib.hid b
                clear b hlead
                go_quiet (fail)
                go_wp2
                go_meet
                exact ⟨⟨_, rfl, HBO.out.symm⟩, below_drewV (hbw.alloc hbw.size _) _⟩
              · have b : decide (t.size < 4 ∨ x1 < LO ∨ HI < x1 ∨ x2 < 128 ∨ 191 < x2 ∨ x3 < 128 ∨ 191 < x3) = true := decide_eq_true (by omega)
                have c1 := G1.out (by omega)
                have j1 : (1 : Int) < (t.size : Int) := by omega
                have c2 := G2.out (by omega)
                have j2 : (2 : Int) < (t.size : Int) := by omega
                have c3 := G3.out (by omega)
                have j3 : (3 : Int) < (t.size : Int) := by omega
                have HBO := Lib.hid b
                clear b hlead
                go_quiet (fail)
                go_wp2
                go_meet
                exact ⟨⟨_, rfl, HBO.out.symm⟩, below_drewV (hbw.alloc hbw.size _) _⟩
              · have b : decide (t.size < 4 ∨ x1 < LO ∨ HI < x1 ∨ x2 < 128 ∨ 191 < x2 ∨ x3 < 128 ∨ 191 < x3) = true := decide_eq_true (by omega)
                have c1 := G1.out (by omega)
                have j1 : (1 : Int) < (t.size : Int) := by omega
                have c2 := G2.out (by omega)
                have j2 : (2 : Int) < (t.size : Int) := by omega
                have c3 := G3.out (by omega)
                have j3 : (3 : Int) < (t.size : Int) := by omega
                have HBO := Lib.hid b
                clear b hlead
                go_quiet (fail)
                go_wp2
                go_meet
                exact ⟨⟨_, rfl, HBO.out.symm⟩, below_drewV (hbw.alloc hbw.size _) _⟩
              · have b : decide (t.size < 4 ∨ x1 < LO ∨ HI < x1 ∨ x2 < 128 ∨ 191 < x2 ∨ x3 < 128 ∨ 191 < x3) = true := decide_eq_true (by omega)
                have c1 := G1.out (by omega)
                have j1 : (1 : Int) < (t.size : Int) := by omega
                have c2 := G2.out (by omega)
                have j2 : (2 : Int) < (t.size : Int) := by omega
                have c3 := G3.out (by omega)
                have j3 : (3 : Int) < (t.size : Int) := by omega
                have HBO := Lib.hid b
                clear b hlead
                go_quiet (fail)
                go_wp2
                go_meet
                exact ⟨⟨_, rfl, HBO.out.symm⟩, below_drewV (hbw.alloc hbw.size _) _⟩
              · have b : decide (t.size < 4 ∨ x1 < LO ∨ HI < x1 ∨ x2 < 128 ∨ 191 < x2 ∨ x3 < 128 ∨ 191 < x3) = false := decide_eq_false (by omega)
                have c1 := G1.out (by omega)
                have j1 : (1 : Int) < (t.size : Int) := by omega
                have c2 := G2.out (by omega)
                have j2 : (2 : Int) < (t.size : Int) := by omega
                have c3 := G3.out (by omega)
                have j3 : (3 : Int) < (t.size : Int) := by omega
                have HBO := Lib.hid b
                clear b hlead
                go_quiet (fail)
                go_wp2
                go_meet
                exact ⟨⟨_, rfl, HBO.out.symm⟩, below_drewV (hbw.alloc hbw.size _) _⟩
            case rest =>
              obtain ⟨⟨v, rfl, hv⟩, hbc⟩ := hcut
              by_cases hbad : t.size < 4 ∨ x1 < LO ∨ HI < x1 ∨ x2 < 128 ∨ 191 < x2 ∨ x3 < 128 ∨ 191 < x3
              · rw [if_pos hbad] at hlead
                rw [decide_eq_true hbad] at hv
                subst hv
                subst hlead
                clear hbad
                go_wp2
                go_ret
                exact ⟨rfl, hbc⟩
              · rw [if_neg hbad] at hlead
                rw [decide_eq_false hbad] at hv
                subst hv
                obtain ⟨o2, t2, hc2, hr2, hz2⟩ := R.out.cut 4 4 rfl (by omega) (by rw [Lib.ext_list]; exact hlead.symm.trans R.out.same.symm)
                have R2 := Lib.hid hr2
                clear hbad hlead hr2
                go_wp2
                go_roundg g
                case measure => omega
                case rel => exact ⟨hbc, t2, o2, rfl, R2.out, by omega⟩
        · have n2 : ¬ (X : Int) % 8 = 2 := by omega
          have n3 : ¬ (X : Int) % 8 = 3 := by omega
          have n4 : ¬ (X : Int) % 8 = 4 := by omega
          have m2 : (((X : Int) % 8) == 2) = false := beq_eq_false_iff_ne.2 n2
          have m3 : (((X : Int) % 8) == 3) = false := beq_eq_false_iff_ne.2 n3
          have m4 : (((X : Int) % 8) == 4) = false := beq_eq_false_iff_ne.2 n4
          simp only [checkN, s2, s3, s4, if_false] at hlead
          subst hlead
          go_wp2
          go_ret
          exact ⟨rfl, hbw.alloc hbw.size _⟩
    · have h00 : ¬ (0 : Int) < (t.size : Int) := by omega
      have hsame := hr.same
      rw [show t.data.toList = [] from List.eq_nil_of_length_eq_zero (by rw [← Lib.size_eq]; omega), validD_nil] at hsame
      subst hsame
      clear hr
      go_wp2
      go_ret
      exact ⟨rfl, hbw⟩
end Go.Proofs.YtihpnplfklbgjaaDoor

/- The walk of UtfSigns. -/
namespace Go.Proofs.YtihpnplfklbgjaaDoor
set_option linter.unusedVariables false
set_option maxRecDepth 100000
open Go.RowKit Go.Lib

theorem rightU_any (l : List UInt8) (b off cap : Nat) (w : World) (hl : l.length ≤ 1000000) (hcap : l.length ≤ cap) (hT : TabsU w) (hp : Bys w b off l) :
    Calls Tryd.prog 113 #[.slice (some ⟨b, off, none⟩) l.length cap] w fun e w' => e = .returned (.bool (validD l)) ∧ Below w.heap.size w w' := by
  have hv := valid_slice (S l) b off cap w (by rw [S_size]; omega) (by rw [S_size]; omega) hT (Bya.of_bys hp)
  rw [S_list, S_size] at hv
  have HV := Lib.hid hv
  clear hv hp
  go_enter Tryd.func113, Tryd.ntmps113
  go_wp2_with (first
    | (go_at_call 129; go_must (refine HV.out.mono ?_; rintro e w1 ⟨rfl, hb1⟩; have H1 := Lib.hid hb1; clear hb1)))
  go_ret
  exact ⟨rfl, H1.out⟩

/-- []byte(s). -/
theorem conv_bytes (w : World) (z : ByteArray) (l : List UInt8) (hz : S l = z) : ∃ cap W, (convert 9 29 (.string z)).run Tryd.prog w = .ok (.slice (some ⟨w.heap.size, 0, none⟩) l.length cap) W ∧ l.length ≤ cap ∧ Bys W w.heap.size 0 l ∧ Below w.heap.size w W := by
  subst hz
  have h := run_bytes_of_string (P := Tryd.prog) w 9 29 5 (S l) Tryd.underlying9 Tryd.underlying29 Tryd.underlying5
  have hg := grownCap_ge w (S l).size 0 5
  rw [S_size] at h hg
  refine ⟨_, _, h, hg, fun j hj => ?_, (Below.refl _ _).drew.alloc (Nat.le_refl _) _⟩
  rw [Nat.zero_add]
  have hr : (bytesRow (S l) (grownCap w l.length 0 5))[j]? = some (.int .u8 ((l[j]'hj).toNat : Int)) := by
    unfold bytesRow S
    simp [Array.getElem?_append, hj]
  rw [← hr]
  exact cell_of_row _ w.heap.size j _ _ _ (heap_alloc_new w.drew _)

theorem same_valid (l : List UInt8) : (!(validD l == decide (0 ≤ countZ l))) = false := by
  unfold countZ
  by_cases hv : validD l = true
  · rw [if_pos hv, hv]; simp
  · have hv' : validD l = false := by simpa using hv
    rw [if_neg hv, hv']; rfl

end Go.Proofs.YtihpnplfklbgjaaDoor

/- bytes.Clone of any slice; take with its block; Scanner.At, Bytes, Name. -/
namespace Go.Proofs.YtihpnplfklbgjaaDoor
open Go.RowKit Go.Lib
set_option linter.unusedVariables false
set_option maxRecDepth 100000

/-- bytes.Clone of any slice. -/
theorem clone_all {w : World} {A : Option Addr} {cap : Nat} {l : List UInt8} (hl : Lies w w.heap.size A (cells (nums l))) (hc : l.length ≤ 1000000) :
    Calls Tryd.prog 44 #[.slice A l.length cap] w (BytesL l w) := by
  by_cases h0 : 0 < l.length
  · exact clone_ok hl h0 hc
  · have hl0 : l = [] := List.eq_nil_of_length_eq_zero (by omega)
    subst hl0
    cases A with
    | none =>
      show Calls Tryd.prog 44 #[.slice none 0 cap] w (BytesL [] w)
      have hnil : ∀ w : World, (binOp BinOp.eql 29 (.slice none 0 cap) (.slice none 0 0)).run Tryd.prog w = .ok (.bool true) w := fun w => by
        simp only [binOp]
        simp [run_equal_slice_nil w 29 5 _ _ _ Tryd.underlying29]
      clear hl h0 hc
      go_enter Tryd.func44, Tryd.ntmps44
      go_wp2
      go_ret
      exact ⟨_, rfl, Row.nil _ _, Below.refl _ _⟩
    | some ad =>
      show Calls Tryd.prog 44 #[.slice (some ad) 0 cap] w (BytesL [] w)
      have hnil : ∀ w : World, (binOp BinOp.eql 29 (.slice (some ad) 0 cap) (.slice none 0 0)).run Tryd.prog w = .ok (.bool false) w := fun w => by
        simp only [binOp]
        simp [run_equal_slice_nil w 29 5 _ _ _ Tryd.underlying29]
      have R0 := Lib.hid (Row.made w [] w.heap.size w.heap.size rfl (Nat.le_refl _) (by simp))
      have HL := Lib.hid (hl.below (below_box w (.cells #[] 5)) (Nat.le_refl _))
      clear hl h0 hc
      go_enter Tryd.func44, Tryd.ntmps44
      go_wp2_with (at_builtin; (refine row_any rfl _ _ rfl w.heap.size _ [] rfl R0.out (some ad) 0 cap _ [] rfl rfl HL.out (fun e => by cases e) (by simp) (by simp) ?_; intro v2 w2 hr2 hb2; have HR2 := Lib.hid hr2; have HB2 := Lib.hid hb2; clear hr2 hb2))
      go_ret
      exact ⟨_, rfl, HR2.out, (below_box w _).trans HB2.out⟩
/-- scan.Over of any slice. -/
theorem over_all {w : World} {A : Option Addr} {cap : Nat} {l : List UInt8} (hl : Lies w w.heap.size A (cells (nums l))) (hc : l.length ≤ 1000000) :
    Calls Tryd.prog 12 #[.slice A l.length cap] w (Overs l w) := by
  have HC := Lib.hid (clone_all (cap := cap) hl hc)
  clear hl
  go_enter Tryd.func12, Tryd.ntmps12
  go_wp2_with (go_at_call 44; go_must ((with_reducible refine HC.out.mono ?_); intro e w1 h; obtain ⟨v, rfl, hr, hb⟩ := h; obtain ⟨A1, c1, rfl, h1, h2, hl1, _⟩ := lies_own hr; have HL := Lib.hid hl1; have H1 := Lib.hid h1; have H2 := Lib.hid h2; have HB := Lib.hid hb; clear hl1 hr h1 h2 hb))
  go_ret
  exact ⟨w1.heap.size, rfl, HB.out.size, ⟨A1, c1, Whole.made _ _ _, HL.out.below (below_box w1 _) (Nat.le_refl _), H1.out, H2.out, by simp⟩, HB.out.trans ((below_box w1 _).mono HB.out.size)⟩
theorem at_any {w : World} {p : Nat} {l : List UInt8} {k : Nat} (h : Sc w p l k) : Calls Tryd.prog 47 #[.pointer (some ⟨p, 0, none⟩)] w fun e w' => e = .returned (.int .i64 k) ∧ w = w' := by
  have c1 := h.at
  clear h
  go_enter Tryd.func47, Tryd.ntmps47
  go_wp2
  go_ret
  exact ⟨rfl, rfl⟩
/-- Bytes: those that come next, in a row of their own. -/
def Byted (p : Nat) (l : List UInt8) (k n : Nat) (w : World) (e : Ending) (w' : World) : Prop :=
  ∃ v, e = .returned v ∧ Row w' w.heap.size v ((l.drop k).take n) ∧ Sc w' p l (k + n) ∧ w.grownBy w' (some p)
/-- take, of bytes that are not none: the cut lies at a block. -/
def TookB (p : Nat) (l : List UInt8) (k n : Nat) (w : World) (e : Ending) (w' : World) : Prop :=
  ∃ b o c, e = .returned (.slice (some ⟨b, o, none⟩) n c) ∧ n ≤ c ∧ Lies w' p (some ⟨b, o, none⟩) (cells (nums ((l.drop k).take n))) ∧ Sc w' p l (k + n) ∧ w.grownBy w' (some p)
set_option maxHeartbeats 800000 in
theorem take_some {w : World} {p : Nat} {l : List UInt8} {k : Nat} (h : Sc w p l k) (n : Nat) (hn : k + n ≤ l.length) (h0 : 0 < l.length) :
    Calls Tryd.prog 105 #[.pointer (some ⟨p, 0, none⟩), .int .i64 n] w (TookB p l k n w) := by
  have hle := h.le
  have HL := Lib.hid (fun m => left_any (h.drewN m))
  have HS := Lib.hid h
  have c1 := h.at
  have f1 := h.free
  clear h
  have d1 : (0 : Int) ≤ n := by omega
  have d2 : (n : Int) ≤ (l.length : Int) - k := by omega
  have d3 : (k : Int) + n ≤ 9223372036854775807 := by omega
  go_enter Tryd.func105, Tryd.ntmps105
  go_wp2_with (go_at_call 48; go_must ((with_reducible refine (unlessT _ _ _).mono ?_); rintro e w' ⟨rfl, rfl⟩))
  go_quiet (first
    | (go_at_call 84; exact Calls.quiet_of (HL.out _))
    | (go_at_call 48; exact (unlessT _ _ _).mono fun _ _ h => ⟨h.1, _, h.2.symm⟩))
  go_wp2
  obtain ⟨hs2, hg2⟩ := HS.out.moved nq ((k : Int) + n) (k + n) (by omega) hn
  generalize (w.drewN nq).setCell ⟨p, 1, none⟩ (.int .i64 ((k : Int) + n)) = W at *
  obtain ⟨A, cap, c0', hlies, hc, hm⟩ := hs2.data
  have c1' := hs2.at
  rw [show ((k + n : Nat) : Int) = (k : Int) + n by omega] at c1'
  obtain ⟨b, off, rfl, _⟩ : ∃ b off, A = some ⟨b, off, none⟩ ∧ True := by
    obtain ⟨b, off, e, _⟩ := hlies.at_ (i := 0) (by rw [cells_length, nums_length]; exact h0)
    exact ⟨b, off, e, trivial⟩
  obtain ⟨A', hcut, hcl⟩ := cut_run (some ⟨b, off, none⟩) l.length cap k n hn hc
  have hA' : ∃ o, A' = some ⟨b, o, none⟩ := by
    have hr := run_slice_lh (P := Tryd.prog) W 29 (some ⟨b, off, none⟩) l.length cap Tryd.underlying29 .i64 .i64 (k : Int) ((k : Int) + n) (by omega) (by omega) (by omega)
    have hz : (sizeOf (Tryd.prog.elem 29)).run Tryd.prog W = .ok 1 W := by kernel_rfl
    rw [hcut W, hz] at hr
    have e1 : (k : Int).toNat = k := by omega
    by_cases hk : cap = k
    · simp [Result.andThen, sliced, hk] at hr
      exact ⟨off, hr.1⟩
    · simp [Result.andThen, sliced, e1, hk, Go.WideShapes.add_plain] at hr
      exact ⟨_, hr.1⟩
  obtain ⟨o, rfl⟩ := hA'
  have HLI := Lib.hid (hcl W p (nums l) hlies)
  have HS2 := Lib.hid hs2
  have HG2 := Lib.hid hg2
  clear hlies hs2 hg2 c1 f1 hcl
  go_quiet (fail)
  go_wp2
  go_ret
  exact ⟨b, o, cap - k, rfl, by omega, by have := HLI.out; unfold nums at *; rw [List.map_take, List.map_drop]; exact this, HS2.out.drewN _, gb_drewN HG2.out _⟩

/-- string(b) of whatever lies. -/
theorem str_any {w : World} {B : Nat} {A : Option Addr} {o : List UInt8} (h : Lies w B A (cells (nums o))) (c : Nat) :
    ∀ dst, Tryd.prog.underlying dst = some .string → (convert 29 dst (.slice A o.length c)).run Tryd.prog w = .ok (.string (S o)) w := by
  by_cases h0 : 0 < (nums o).length
  · have := str_lies h h0 c Tryd.underlying29 Tryd.underlying5
    rw [strOfNums_nums, nums_length] at this
    exact this
  · have ho : o = [] := List.eq_nil_of_length_eq_zero (by rw [nums_length] at h0; omega)
    subst ho
    intro dst hd
    rw [run_convert_bytes_string w _ dst 5 _ _ c Tryd.underlying29 Tryd.underlying5 hd]
    have e : S [] = ByteArray.empty := rfl
    rw [e]
    cases A <;> simp [Conv.bytesToString, loadCells]
    all_goals rfl

/-- The tables of unicode/utf8 lie below a block. -/
def TbN (p : Nat) (w : World) : Prop := TabsU w ∧ 0 < p ∧ 1 < p ∧ p ≤ w.heap.size
theorem TbN.tabs {p : Nat} {w : World} (h : TbN p w) : TabsU w := h.1
theorem TbN.keep {p q : Nat} {w w' : World} (h : TbN p w) (hg : w.grownBy w' (some q)) (hq : p ≤ q) : TbN p w' := by
  obtain ⟨⟨h1, h2⟩, h3, h4, h5⟩ := h
  have key : ∀ b o, b < p → w'.cell? ⟨b, o, none⟩ = w.cell? ⟨b, o, none⟩ := fun b o hb => by
    unfold World.cell?
    rw [hg.block b (by omega) (by simp only [ne_eq, Option.some.injEq]; omega)]
  refine ⟨⟨fun c hc => (key _ _ h3).trans (h1 c hc), fun i hi => ⟨(key _ _ h4).trans (h2 i hi).1, (key _ _ h4).trans (h2 i hi).2⟩⟩, h3, h4, Nat.le_trans h5 hg.size⟩
theorem TbN.below {p : Nat} {w w' : World} (h : TbN p w) (hb : Below w.heap.size w w') : TbN p w' := h.keep (gb_of_below (some w.heap.size) hb) h.2.2.2
theorem TbN.more {p q : Nat} {w : World} (h : TbN p w) (hq : p ≤ q) (hz : q ≤ w.heap.size) : TbN q w := ⟨h.1, by have := h.2.1; omega, by have := h.2.2.1; omega, hz⟩

theorem uintR_lt {l : List UInt8} {k n : Nat} {v : Int} {k' : Nat} (h : uintR l k n = .ok v k') : k < k' := by
  unfold uintR at h
  repeat' split at h
  all_goals first | (injection h with h1 h2; omega) | cases h
theorem atMostR_ok {l : List UInt8} {k : Nat} {m c v : Int} {k' : Nat} (h : atMostR l k m c = .ok v k') : k' ≤ l.length ∧ 0 ≤ v ∧ v ≤ m ∧ k < k' := by
  unfold atMostR at h
  cases hr : indexR l k with
  | ok v2 k2 =>
    rw [hr, Res.bind_ok] at h
    obtain ⟨h1, h2, _⟩ := uintR_ok (show uintR l k 32 = .ok v2 k2 from hr)
    have h3 := uintR_lt (show uintR l k 32 = .ok v2 k2 from hr)
    split at h
    · injection h with e1 e2; subst e1; subst e2; exact ⟨h1, h2, by assumption, h3⟩
    · cases h
  | err c2 a => rw [hr, Res.bind_err] at h; cases h
theorem atMostR_err {l : List UInt8} {k : Nat} {m c : Int} {c2 a : Int} (h : atMostR l k m c = .err c2 a) (hc : c ≠ 0) : c2 ≠ 0 ∧ a = k := by
  unfold atMostR at h
  cases hr : indexR l k with
  | ok v2 k2 =>
    rw [hr, Res.bind_ok] at h
    split at h
    · cases h
    · injection h with e1 e2; subst e1; subst e2; exact ⟨hc, rfl⟩
  | err c3 a3 =>
    rw [hr, Res.bind_err] at h
    obtain ⟨h1, h2⟩ := uintR_err (show uintR l k 32 = .err c3 a3 from hr)
    injection h with e1 e2
    exact ⟨by omega, by omega⟩
/-- A name. -/
noncomputable def nmR (l : List UInt8) (k : Nat) : Res (List UInt8) := (atMostR l k 200 13).bind fun v k' =>
  if k' + v.toNat ≤ l.length then (if validD ((l.drop k').take v.toNat) then .ok ((l.drop k').take v.toNat) (k' + v.toNat) else .err 4 k') else .err 2 k'
theorem nameR_err {l : List UInt8} {k : Nat} {c a : Int} (h : nmR l k = .err c a) : c ≠ 0 ∧ 0 ≤ a ∧ a ≤ l.length + k := by
  unfold nmR at h
  cases hr : atMostR l k 200 13 with
  | ok v k' =>
    rw [hr, Res.bind_ok] at h
    have h1 := (atMostR_ok hr).1
    repeat' split at h
    all_goals first | (injection h with e1 e2; subst e1; subst e2; exact ⟨by omega, by omega, by omega⟩) | cases h
  | err c2 a2 =>
    rw [hr, Res.bind_err] at h
    obtain ⟨h1, h2⟩ := atMostR_err hr (by omega)
    injection h with e1 e2
    subst e1; subst e2; subst h2
    exact ⟨h1, by omega, by omega⟩
theorem nameR_ok {l t : List UInt8} {k k' : Nat} (h : nmR l k = .ok t k') : k' ≤ l.length ∧ k < k' ∧ t.length ≤ 200 := by
  unfold nmR at h
  cases hr : atMostR l k 200 13 with
  | ok v k1 =>
    rw [hr, Res.bind_ok] at h
    have h1 := atMostR_ok hr
    repeat' split at h
    all_goals first | (injection h with e1 e2; subst e1; subst e2; exact ⟨by assumption, by omega, by rw [List.length_take]; omega⟩) | cases h
  | err c2 a2 => rw [hr, Res.bind_err] at h; cases h
theorem bys_lies {W : World} {B b o : Nat} {t : List UInt8} (h : Lies W B (some ⟨b, o, none⟩) (cells (nums t))) : Bys W b o t := fun j hj => by
  obtain ⟨b2, o2, e, _, hc⟩ := h.byte (i := j) (c := (t[j].toNat : Int)) (by unfold nums; rw [List.getElem?_map, List.getElem?_eq_getElem hj]; rfl)
  simp only [Option.some.injEq, Addr.mk.injEq] at e
  obtain ⟨rfl, rfl, _⟩ := e
  exact hc
set_option maxHeartbeats 1000000 in
theorem name_scan {w : World} {p : Nat} {l : List UInt8} {k : Nat} (h : Sc w p l k) (hT : TbN p w) :
    Calls Tryd.prog 89 #[.pointer (some ⟨p, 0, none⟩)] w (Did encS p l w (nmR l k)) := by
  have hN := atMost_scan h 200 13
  have hp := h.lt
  unfold nmR
  cases hr : atMostR l k 200 13 with
  | err c a =>
    rw [hr] at hN
    rw [Res.bind_err]
    have HN := Lib.hid hN
    clear hN hr h hT
    go_enter Tryd.func89, Tryd.ntmps89
    go_wp2_with (go_at_call 112; go_must ((with_reducible refine HN.out.mono ?_); rintro e w1 ⟨rfl, hg⟩; have HG := Lib.hid hg; clear hg))
    exact ⟨rfl, rfl, HG.out⟩
  | ok v k' =>
    rw [hr] at hN
    rw [Res.bind_ok]
    have HN := Lib.hid hN
    obtain ⟨hk, v0, v1, hlt⟩ := atMostR_ok hr
    obtain ⟨n, rfl⟩ : ∃ n : Nat, v = n := ⟨v.toNat, by omega⟩
    have HT := Lib.hid hT
    rw [Int.toNat_natCast]
    clear hN hr h hT v0
    by_cases hn : k' + n ≤ l.length
    · rw [if_pos hn]
      have hlen : ((l.drop k').take n).length = n := by rw [List.length_take, List.length_drop]; omega
      have HTS := Lib.hid (fun (W : World) (hs : Sc W p l k') => take_some hs n hn (by omega))
      obtain ⟨t, ht⟩ : ∃ t, t = (l.drop k').take n := ⟨_, rfl⟩
      have HE := Lib.hid ht
      rw [← ht] at hlen ⊢
      subst hlen
      clear ht hn hlt
      have HRi := Lib.hid (fun (W : World) (b o c : Nat) (hc : t.length ≤ c) (hT : TabsU W) (hl : Lies W p (some ⟨b, o, none⟩) (cells (nums t))) => rightU_any t b o c W (by omega) hc hT (bys_lies hl))
      by_cases hv : validD t = true
      · rw [if_pos hv]
        rw [hv] at HRi
        clear hv
        go_enter Tryd.func89, Tryd.ntmps89
        go_wp2_with (first
          | (go_at_call 112; go_must ((with_reducible refine HN.out.mono ?_); rintro e w1 ⟨rfl, hs, hg⟩; have c1 := hs.at; have HTK := Lib.hid (HTS.out _ hs); have HG := Lib.hid hg; clear hs hg))
          | (go_at_call 105; go_must ((with_reducible refine HTK.out.mono ?_); rintro e w2 ⟨b, o, c, rfl, hc, hl, hs, hg⟩; rw [← HE.out] at hl; have HL := Lib.hid hl; have HS := Lib.hid hs; have HG2 := Lib.hid (gb_trans HG.out hg); have HC := Lib.hid hc; clear hl hs hg hc))
          | (go_at_call 113; go_must ((with_reducible refine (HRi.out _ _ _ _ HC.out (HT.out.keep HG2.out (Nat.le_refl _)).tabs HL.out).mono ?_); rintro e w3 ⟨rfl, hb⟩; have hst := str_any (HL.out.below hb (Nat.le_of_lt HS.out.lt)) c; have HB := Lib.hid hb; clear hb))
          | (go_at_call 48; go_must ((with_reducible refine (unlessT _ _ _).mono ?_); rintro e w' ⟨rfl, rfl⟩)))
        go_ret
        exact ⟨rfl, HS.out.below HB.out, gb_before HG2.out (gb_of_below (some p) HB.out) (fun g e => .inl e)⟩
      · rw [if_neg hv]
        have hv' : validD t = false := by simpa using hv
        rw [hv'] at HRi
        clear hv hv'
        go_enter Tryd.func89, Tryd.ntmps89
        go_wp2_with (first
          | (go_at_call 112; go_must ((with_reducible refine HN.out.mono ?_); rintro e w1 ⟨rfl, hs, hg⟩; have c1 := hs.at; have HTK := Lib.hid (HTS.out _ hs); have HG := Lib.hid hg; clear hs hg))
          | (go_at_call 105; go_must ((with_reducible refine HTK.out.mono ?_); rintro e w2 ⟨b, o, c, rfl, hc, hl, hs, hg⟩; rw [← HE.out] at hl; have HL := Lib.hid hl; have HS := Lib.hid hs; have HG2 := Lib.hid (gb_trans HG.out hg); have HC := Lib.hid hc; clear hl hs hg hc))
          | (go_at_call 113; go_must ((with_reducible refine (HRi.out _ _ _ _ HC.out (HT.out.keep HG2.out (Nat.le_refl _)).tabs HL.out).mono ?_); rintro e w3 ⟨rfl, hb⟩; have HB := Lib.hid hb; clear hb))
          | (go_at_call 48; go_must ((with_reducible refine (unlessF _ _ _).mono ?_); rintro e w' ⟨rfl, rfl⟩)))
        exact ⟨rfl, rfl, gb_before HG2.out (gb_of_below (some p) HB.out) (fun g e => .inl e)⟩
    · rw [if_neg hn]
      have HTS := Lib.hid (fun (W : World) (hs : Sc W p l k') => take_short hs n (by omega))
      clear hn
      go_enter Tryd.func89, Tryd.ntmps89
      go_wp2_with (first
        | (go_at_call 112; go_must ((with_reducible refine HN.out.mono ?_); rintro e w1 ⟨rfl, hs, hg⟩; have c1 := hs.at; have HTK := Lib.hid (HTS.out _ hs); have HG := Lib.hid hg; clear hs hg))
        | (go_at_call 105; go_must ((with_reducible refine HTK.out.mono ?_); rintro e w2 ⟨rfl, hg⟩; have HG2 := Lib.hid (gb_trans HG.out hg); clear hg)))
      exact ⟨rfl, rfl, HG2.out⟩
end Go.Proofs.YtihpnplfklbgjaaDoor

/- sect.number, contents, Next. -/
namespace Go.Proofs.YtihpnplfklbgjaaDoor
open Go.RowKit Go.Lib
set_option linter.unusedVariables false
set_option maxRecDepth 100000

/-- A section: its number, its name, its bytes, where these begin. -/
structure Sct where
  id : UInt8
  name : List UInt8
  body : List UInt8
  off : Int
/-- A section's number. -/
def numR (l : List UInt8) (k : Nat) : Res UInt8 := (byteR l k).bind fun c k' => if (c.toNat : Int) ≤ 11 then .ok c k' else .err 6 k
theorem byteR_okS {l : List UInt8} {k : Nat} {c : UInt8} {k' : Nat} (h : byteR l k = .ok c k') : k' = k + 1 ∧ k < l.length := by
  unfold byteR at h
  cases hl : l[k]? with
  | none => rw [hl] at h; cases h
  | some d =>
    rw [hl] at h
    injection h with h1 h2
    exact ⟨h2.symm, (List.getElem?_eq_some_iff.1 hl).1⟩
theorem byteR_err {l : List UInt8} {k : Nat} {c a : Int} (h : byteR l k = .err c a) : c = 2 ∧ a = k := by
  unfold byteR at h
  cases hl : l[k]? with
  | none => rw [hl] at h; injection h with h1 h2; exact ⟨h1.symm, h2.symm⟩
  | some d => rw [hl] at h; cases h
theorem numR_ok {l : List UInt8} {k : Nat} {c : UInt8} {k' : Nat} (h : numR l k = .ok c k') : k' = k + 1 ∧ k < l.length := by
  unfold numR at h
  cases hr : byteR l k with
  | ok d k2 =>
    rw [hr, Res.bind_ok] at h
    split at h
    · injection h with h1 h2; subst h1; subst h2; exact byteR_okS hr
    · cases h
  | err c2 a => rw [hr, Res.bind_err] at h; cases h
theorem numR_err {l : List UInt8} {k : Nat} {c a : Int} (h : numR l k = .err c a) : c ≠ 0 := by
  unfold numR at h
  cases hr : byteR l k with
  | ok d k2 =>
    rw [hr, Res.bind_ok] at h
    split at h
    · cases h
    · injection h with h1 h2; omega
  | err c2 a2 =>
    rw [hr, Res.bind_err] at h
    injection h with h1 h2
    have := (byteR_err hr).1
    omega
/-- How many bytes follow, and where they begin. -/
noncomputable def contR (l : List UInt8) (k : Nat) : Res Nat := (indexR l k).bind fun v k' => if k' + v.toNat ≤ l.length then .ok v.toNat k' else .err 2 k'
theorem contR_ok {l : List UInt8} {k n k' : Nat} (h : contR l k = .ok n k') : k < k' ∧ k' + n ≤ l.length := by
  unfold contR at h
  cases hr : indexR l k with
  | ok v k2 =>
    rw [hr, Res.bind_ok] at h
    split at h
    · injection h with h1 h2; subst h1; subst h2; exact ⟨uintR_lt (show uintR l k 32 = .ok v k2 from hr), by assumption⟩
    · cases h
  | err c2 a => rw [hr, Res.bind_err] at h; cases h
theorem contR_err {l : List UInt8} {k : Nat} {c a : Int} (h : contR l k = .err c a) : c ≠ 0 := by
  unfold contR at h
  cases hr : indexR l k with
  | ok v k2 =>
    rw [hr, Res.bind_ok] at h
    split at h
    · cases h
    · injection h with h1 h2; omega
  | err c2 a2 =>
    rw [hr, Res.bind_err] at h
    injection h with h1 h2
    have := (uintR_err (show uintR l k 32 = .err c2 a2 from hr)).2
    omega
/-- What contents leaves behind. -/
def Cont (p : Nat) (l : List UInt8) (w : World) (r : Res Nat) (e : Ending) (w' : World) : Prop := match r with
  | .ok n k => ∃ q, e = .returned (.tuple #[.pointer (some ⟨q, 0, none⟩), .int .i64 k]) ∧ w.heap.size ≤ q ∧ Sc w' q ((l.drop k).take n) 0 ∧ Sc w' p l (k + n) ∧ w.grownBy w' (some p)
  | .err c a => e = .panicked (stopP c a) ∧ w.grownBy w' (some p)
set_option maxHeartbeats 800000 in
theorem cont_sect {w : World} {p : Nat} {l : List UInt8} {k : Nat} (h : Sc w p l k) :
    Calls Tryd.prog 106 #[.pointer (some ⟨p, 0, none⟩)] w (Cont p l w (contR l k)) := by
  have hN := index_scan h
  have hle := h.le.2
  unfold contR
  cases hr : indexR l k with
  | ok v k' =>
    rw [hr] at hN
    rw [Res.bind_ok]
    have HN := Lib.hid hN
    obtain ⟨hk, v0, v1⟩ := uintR_ok (show uintR l k 32 = .ok v k' from hr)
    obtain ⟨n, rfl⟩ : ∃ n : Nat, v = n := ⟨v.toNat, by omega⟩
    have v2 : (n : Int) < 4294967296 := v1
    have w1 : IntKind.u64.wrap (n : Int) = n := by simp [IntKind.wrap, IntKind.bits, IntKind.signed]; omega
    have w2 : IntKind.u64.wrap ((l.length : Int) - k') = (l.length : Int) - k' := by simp [IntKind.wrap, IntKind.bits, IntKind.signed]; omega
    have w3 : IntKind.i64.wrap (n : Int) = n := by rw [IntKind.wrap_i64]; omega
    rw [Int.toNat_natCast]
    clear hN hr h v0 v1
    by_cases hm : k' + n ≤ l.length
    · rw [if_pos hm]
      have d1 : decide ((n : Int) ≤ (l.length : Int) - k') = true := by simp; omega
      have d2 : (n : Int) ≤ (l.length : Int) - k' := by omega
      have HSu := Lib.hid (fun (W : World) (hs : Sc W p l k') => sub_ok hs n hm)
      clear hm
      go_enter Tryd.func106, Tryd.ntmps106
      go_wp2_with (first
        | (go_at_call 52; go_must ((with_reducible refine HN.out.mono ?_); rintro e w1 ⟨rfl, hs, hg⟩; have HS := Lib.hid hs; have HG := Lib.hid hg; clear hs hg))
        | (go_at_call 47; go_must ((with_reducible refine (at_any HS.out).mono ?_); rintro e w2 ⟨rfl, rfl⟩))
        | (go_at_call 84; go_must ((with_reducible refine (left_any HS.out).mono ?_); rintro e w2 ⟨rfl, m, rfl⟩))
        | (go_at_call 48; go_must ((with_reducible refine (unlessT _ _ _).mono ?_); rintro e w' ⟨rfl, rfl⟩))
        | (go_at_call 126; go_must ((with_reducible refine (HSu.out _ (HS.out.drewN m)).mono ?_); rintro e w3 ⟨q, rfl, hq, hs1, hs2, hg2⟩; have HQ := Lib.hid hq; have HS1 := Lib.hid hs1; have HS2 := Lib.hid hs2; have HG2 := Lib.hid (gb_trans (gb_drewN HG.out m) hg2); clear hq hs1 hs2 hg2)))
      go_ret2
      exact ⟨q, rfl, Nat.le_trans HG.out.size HQ.out, HS1.out, HS2.out, HG2.out⟩
    · rw [if_neg hm]
      have d1 : decide ((n : Int) ≤ (l.length : Int) - k') = false := by simp; omega
      have d2 : ¬ (n : Int) ≤ (l.length : Int) - k' := by omega
      clear hm
      go_enter Tryd.func106, Tryd.ntmps106
      go_wp2_with (first
        | (go_at_call 52; go_must ((with_reducible refine HN.out.mono ?_); rintro e w1 ⟨rfl, hs, hg⟩; have HS := Lib.hid hs; have HG := Lib.hid hg; clear hs hg))
        | (go_at_call 47; go_must ((with_reducible refine (at_any HS.out).mono ?_); rintro e w2 ⟨rfl, rfl⟩))
        | (go_at_call 84; go_must ((with_reducible refine (left_any HS.out).mono ?_); rintro e w2 ⟨rfl, m, rfl⟩))
        | (go_at_call 48; go_must ((with_reducible refine (unlessF _ _ _).mono ?_); rintro e w' ⟨rfl, rfl⟩)))
      exact ⟨rfl, rfl, gb_drewN HG.out m⟩
  | err c2 a =>
    rw [hr] at hN
    rw [Res.bind_err]
    have HN := Lib.hid hN
    clear hN hr h
    go_enter Tryd.func106, Tryd.ntmps106
    go_wp2_with (go_at_call 52; go_must ((with_reducible refine HN.out.mono ?_); rintro e w1 ⟨rfl, hg⟩; have HG := Lib.hid hg; clear hg))
    exact ⟨rfl, rfl, HG.out⟩
end Go.Proofs.YtihpnplfklbgjaaDoor

/- Single steps of a region that draws its order: what makes memory or writes. -/
namespace Go.Proofs.YtihpnplfklbgjaaDoor
open Go.RowKit
set_option linter.unusedVariables false

/-- []byte(s): its block. -/
def convRow (W : World) (s : ByteArray) : Obj := .cells (bytesRow s (grownCap W s.size 0 5)) 5 ((bytesRow s (grownCap W s.size 0 5)).size, (bytesRow s (grownCap W s.size 0 5)).size + 1)
theorem conv_run (s : ByteArray) (W : World) : (convert 9 29 (.string s)).run Tryd.prog W = .ok (.slice (some ⟨W.heap.size, 0, none⟩) s.size (grownCap W s.size 0 5)) (W.drew.alloc (convRow W s)) :=
  run_bytes_of_string (P := Tryd.prog) W 9 29 5 s Tryd.underlying9 Tryd.underlying29 Tryd.underlying5
theorem conv_lies (W : World) (l : List UInt8) : Lies (W.drew.alloc (convRow W (S l))) (W.heap.size + 1) (some ⟨W.heap.size, 0, none⟩) (cells (nums l)) := by
  intro i v hv
  refine ⟨W.heap.size, 0, rfl, by omega, ?_⟩
  have hi : i < l.length := by
    have := (List.getElem?_eq_some_iff.1 hv).1
    rw [cells_length, nums_length] at this
    exact this
  rw [Nat.zero_add, ← hv]
  have hr : (bytesRow (S l) (grownCap W (S l).size 0 5))[i]? = (cells (nums l))[i]? := by
    unfold bytesRow S cells nums
    simp [Array.getElem?_append, hi]
  rw [← hr]
  exact cell_of_row _ W.heap.size i _ _ _ (heap_alloc_new W.drew _)
theorem Lies.put {w : World} {B g bb : Nat} {vs : List Value} (h : Lies w B (some ⟨g, 0, none⟩) vs) (hne : g ≠ bb) (i : Nat) (v : Value) : Lies (w.setCell ⟨bb, i, none⟩ v) B (some ⟨g, 0, none⟩) vs := fun j u hu => by
  obtain ⟨b, off, e, h1, h2⟩ := h j u hu
  injection e with e
  injection e with e1 e2
  subst e1; subst e2
  refine ⟨g, 0, rfl, h1, ?_⟩
  rw [← h2]
  exact World.cell?_of_block (a := ⟨g, 0 + j, none⟩) (heap_setCell_other w ⟨bb, i, none⟩ g v hne)
section
variable {w : World} {ops : Array Oper} {o : Oper} {a : Act} {K : Act → World → Prop} {Q : Exit → Act → World → Prop} {E : Prop}
theorem step_value {v : Value} {w' : World} (hgd : o.guard = none) (h : (execOp a.eval o).run Tryd.prog w = .ok (.value v) w') (hK : K (a.put o.dst v) w') :
    if Region.wanted o (yielded ops a.tmps) = true then Oper.wp Tryd.prog o a w K Q else E := by
  have hw : Region.wanted o (yielded ops a.tmps) = true := by simp [Region.wanted, hgd]
  rw [if_pos hw]
  unfold Oper.wp
  rw [h]
  exact hK
theorem step_skip {w' : World} (hgd : o.guard = none) (h : (execOp a.eval o).run Tryd.prog w = .ok .skip w') (hK : K (a.put o.dst undef) w') :
    if Region.wanted o (yielded ops a.tmps) = true then Oper.wp Tryd.prog o a w K Q else E := by
  have hw : Region.wanted o (yielded ops a.tmps) = true := by simp [Region.wanted, hgd]
  rw [if_pos hw]
  unfold Oper.wp
  rw [h]
  exact hK
/-- A cell for a slice of bytes is made. -/
theorem step_alloc (hgd : o.guard = none) (ho : o.op = .alloc 29) (h : ∀ bb wa, w.heap.size ≤ bb → bb < wa.heap.size → Below w.heap.size w wa → Whole wa bb 29 #[.slice none 0 0] → K (a.put o.dst (.pointer (some ⟨bb, 0, none⟩))) wa) :
    if Region.wanted o (yielded ops a.tmps) = true then Oper.wp Tryd.prog o a w K Q else E := by
  refine step_value (w' := w.alloc (.cells #[.slice none 0 0] 29)) hgd ?_ (h _ _ (Nat.le_refl _) (by simp) (below_box w _) (Whole.made w _ _))
  cases o
  subst ho
  simp [go_sem]
/-- []byte(s). -/
theorem step_conv (hgd : o.guard = none) (x : Operand) (ho : o.op = .convert 9 29 x) (l : List UInt8) (hx : a.eval x = .string (S l))
    (h : ∀ g cap wc, w.heap.size ≤ g → g < wc.heap.size → l.length ≤ cap → Below w.heap.size w wc → Lies wc wc.heap.size (some ⟨g, 0, none⟩) (cells (nums l)) → K (a.put o.dst (.slice (some ⟨g, 0, none⟩) l.length cap)) wc) :
    if Region.wanted o (yielded ops a.tmps) = true then Oper.wp Tryd.prog o a w K Q else E := by
  have hr := conv_run (S l) w
  have hg := grownCap_ge w (S l).size 0 5
  rw [S_size] at hg
  refine step_value (v := .slice (some ⟨w.heap.size, 0, none⟩) l.length (grownCap w l.length 0 5)) (w' := w.drew.alloc (convRow w (S l))) hgd ?_ (h _ _ _ (Nat.le_refl _) (by simp) hg ((Below.refl _ _).drew.alloc (Nat.le_refl _) _) ((conv_lies w l).more (by simp)))
  cases o
  subst ho
  rw [S_size] at hr
  clear h
  generalize a.eval = ev at hx ⊢
  simp [go_sem, hx, hr]
/-- The cell is written. -/
theorem step_store (hgd : o.guard = none) (pa pv : Operand) (ho : o.op = .store 29 pa pv) (bb : Nat) (A : Option Addr) (n c : Nat) (hx : a.eval pa = .pointer (some ⟨bb, 0, none⟩)) (hv : a.eval pv = .slice A n c) {y : Value}
    (hw : Whole w bb 29 #[y]) (h : K (a.put o.dst undef) (w.setCell ⟨bb, 0, none⟩ (.slice A n c))) :
    if Region.wanted o (yielded ops a.tmps) = true then Oper.wp Tryd.prog o a w K Q else E := by
  have c0 := hw.cell 0
  have f0 := hw.frozen 0
  simp only [List.getElem?_toArray, List.getElem?_cons_zero] at c0
  refine step_skip hgd ?_ h
  cases o
  subst ho
  clear h
  generalize a.eval = ev at hx hv ⊢
  simp [go_sem, hx, hv, c0, f0]
end
end Go.Proofs.YtihpnplfklbgjaaDoor
