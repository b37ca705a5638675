/- instr.Get of any bytes. (By gen/genGetA.py.) -/
import Derived.Test.YtebgmfjgapmpfaaDoorQg07
import Derived.Test.YtebgmfjgapmpfaaDoorQg09
namespace Go.Proofs.YtebgmfjgapmpfaaDoor
open Go.RowKit
set_option linter.unusedVariables false
set_option maxRecDepth 100000

/-- What Get leaves behind. -/
def GetsR (p : Nat) (l : List UInt8) (r : Res I) (w : World) (e : Ending) (w' : World) : Prop := match r with
  | .ok i k => Gets p l i k w e w'
  | .err c a => e = .panicked (stopP c a) ∧ w.grownBy w' (some p)
set_option maxHeartbeats 4000000 in
theorem getA_any {w : World} {p : Nat} {l : List UInt8} {k : Nat} (hs : Sc w p l k) (hT : TbP p w) :
    Calls Tryd.prog 70 #[.pointer (some ⟨p, 0, none⟩)] w (GetsR p l (getR l k) w) := by
  have hlt := hs.lt
  have HZ : Hid (Sc (w.alloc (.cells #[.int .u8 0, .int .u64 0, .int .u64 0, .slice none 0 0] 25)) p l k ∧ TbP p (w.alloc (.cells #[.int .u8 0, .int .u64 0, .int .u64 0, .slice none 0 0] 25))) := ⟨hs.alloc _, hT.below (below_box w _) (by omega)⟩
  have hO := getOp_any HZ.out.1 HZ.out.2
  unfold getR
  cases hop : opR l k with
  | err ec ea =>
    rw [hop] at hO
    rw [Res.bind_err]
    show Calls _ _ _ _ (fun e w' => e = .panicked (stopP ec ea) ∧ w.grownBy w' (some p))
    have HOP := Lib.hid hO
    clear hs hT hO hop HZ
    go_enter Tryd.func70, Tryd.ntmps70
    go_wp2_with (go_at_call 112; go_must ((with_reducible refine HOP.out.mono ?_); rintro e w1 ⟨rfl, hg⟩; have HG := Lib.hid hg; clear hg))
    exact ⟨rfl, rfl, gb_trans (gb_alloc (gb_refl w _) _) HG.out⟩
  | ok c k1 =>
    rw [hop] at hO
    rw [Res.bind_ok]
    obtain ⟨hk1, hc0⟩ := opR_ok hop
    have hn : c.toNat ≤ 255 := by have := c.toNat_lt; omega
    obtain ⟨m, hm⟩ : ∃ m, m = immR c.toNat := ⟨_, rfl⟩
    obtain ⟨inf, hinf⟩ : ∃ inf, inf = infR c.toNat := ⟨_, rfl⟩
    have him : inf.imm = m := by rw [hinf, hm]; exact (imm_same hn hc0).1
    have HI : Hid (∀ W, Tabs W → Calls Tryd.prog 66 #[.int .u8 c.toNat] W fun e w' => e = .returned (infV inf) ∧ Below W.heap.size W w') := fun W hW => by rw [hinf]; exact of_any c.toNat W hW hn
    have hfield := fun z wx => field_imm (S inf.name) (S inf.ps) (S inf.rs) z inf.free wx
    show Calls _ _ _ _ (GetsR p l (bodyR (immR c.toNat) c l k1) w)
    rw [← hm]
    have HOP := Lib.hid hO
    have HWM := Lib.hid (Whole.made w 25 #[.int .u8 0, .int .u64 0, .int .u64 0, .slice none 0 0])
    have hstart : ∀ w1, Sc w1 p l k1 → (w.alloc (.cells #[.int .u8 0, .int .u64 0, .int .u64 0, .slice none 0 0] 25)).grownBy w1 (some p) → GSt w p l w1.heap.size none [] k1 (.int .u8 c.toNat) (.int .u64 0) (.int .u64 0) (.slice none 0 0) (w1.alloc (.cells #[.int .u8 c.toNat, .int .u64 0, .int .u64 0, .slice none 0 0] 25)) := fun w1 hs1 hg1 => by
      have hz := hg1.size
      rw [size_box] at hz
      exact ⟨(HWM.out.grown hg1 (by simp only [ne_eq, Option.some.injEq]; omega)).alloc _, Whole.made _ _ _, hs1.alloc _, gb_alloc (gb_trans (gb_alloc (gb_refl w _) _) hg1) _, hlt, by omega, (HZ.out.2.self hg1).below (below_box w1 _) (by omega), (fun j v hv => by simp [cells32] at hv), (fun a e => by cases e), .inl ⟨rfl, rfl⟩⟩
    have HST := Lib.hid hstart
    clear hs hT hO hop hc0 hinf hm hstart
    by_cases m0 : m = 0
    · subst m0
      rw [show bodyR 0 c l k1 = .ok ⟨c, 0, 0, []⟩ k1 from by unfold bodyR; rw [if_pos rfl]]
      go_enter Tryd.func70, Tryd.ntmps70
      go_wp2_with (first
        | (go_at_call 112; go_must ((with_reducible refine HOP.out.mono ?_); rintro e w1 ⟨rfl, hs, hg⟩; have HG1 := Lib.hid (HST.out w1 hs hg); have hh := HG1.out.h2; have n1 : ¬ w1.heap.size = w.heap.size := (by omega); have n2 : ¬ w.heap.size = w1.heap.size := (by omega); clear hs hg hh))
        | (go_at_call 66; go_must ((with_reducible refine (HI.out _ HG1.out.tb.tabs).mono ?_); rintro e w2 ⟨rfl, hb⟩; unfold infV; have HG2 := Lib.hid (HG1.out.below hb); have c0 := HG2.out.box.cell 0; have c1 := HG2.out.box.cell 1; have c2 := HG2.out.box.cell 2; have c3 := HG2.out.box.cell 3; have f1 := HG2.out.box.frozen 1; have f2 := HG2.out.box.frozen 2; have f3 := HG2.out.box.frozen 3; have r0 := HG2.out.res.cell 0; have r1 := HG2.out.res.cell 1; have r2 := HG2.out.res.cell 2; have r3 := HG2.out.res.cell 3; have z0 := HG2.out.res.frozen 0; have z1 := HG2.out.res.frozen 1; have z2 := HG2.out.res.frozen 2; have z3 := HG2.out.res.frozen 3; simp only [List.getElem?_toArray, List.getElem?_cons_zero, List.getElem?_cons_succ] at c0 c1 c2 c3 r0 r1 r2 r3; clear hb)))
      obtain ⟨q, hf⟩ := GSt.fin (HG2.out) (.int .u8 c.toNat) (.int .u64 0) (.int .u64 0) (.slice none 0 0) _ rfl
      have q0 := q.cell 0
      have q1 := q.cell 1
      have q2 := q.cell 2
      have q3 := q.cell 3
      simp only [List.getElem?_toArray, List.getElem?_cons_zero, List.getElem?_cons_succ] at q0 q1 q2 q3
      exact bodyPost_ret (v := insV (⟨c, 0, 0, []⟩ : I) none 0) (by simp [results, Tryd.results70, go_sem, q0, q1, q2, q3]) rfl (gets_end (i := (⟨c, 0, 0, []⟩ : I)) (HG2.out) hf rfl rfl)
    have d0 : ((m : Int) == 0) = false := by simp; omega
    by_cases m1 : m = 1
    · subst m1
      rw [show bodyR 1 c l k1 = (blockR l k1).bind fun a k1 => .ok ⟨c, a, 0, []⟩ k1 from by unfold bodyR; rw [if_neg (by omega), if_pos rfl]]
      have hX0 := fun W (h : Sc W p l k1) => getBlock_any h
      cases hr0 : blockR l k1 with
      | err ec ea =>
        rw [Res.bind_err]
        show Calls _ _ _ _ (fun e w' => e = .panicked (stopP ec ea) ∧ w.grownBy w' (some p))
        have HX0 := Lib.hid (fun W (h : Sc W p l k1) => show Calls Tryd.prog 113 #[.pointer (some ⟨p, 0, none⟩)] W (Did enc64 p l W (.err ec ea)) from by have := hX0 W h; rw [hr0] at this; exact this)
        clear hX0 hr0
        go_enter Tryd.func70, Tryd.ntmps70
        go_wp2_with (first
          | (go_at_call 112; go_must ((with_reducible refine HOP.out.mono ?_); rintro e w1 ⟨rfl, hs, hg⟩; have HG1 := Lib.hid (HST.out w1 hs hg); have hh := HG1.out.h2; have n1 : ¬ w1.heap.size = w.heap.size := (by omega); have n2 : ¬ w.heap.size = w1.heap.size := (by omega); clear hs hg hh))
          | (go_at_call 66; go_must ((with_reducible refine (HI.out _ HG1.out.tb.tabs).mono ?_); rintro e w2 ⟨rfl, hb⟩; unfold infV; have HG2 := Lib.hid (HG1.out.below hb); have c0 := HG2.out.box.cell 0; have c1 := HG2.out.box.cell 1; have c2 := HG2.out.box.cell 2; have c3 := HG2.out.box.cell 3; have f1 := HG2.out.box.frozen 1; have f2 := HG2.out.box.frozen 2; have f3 := HG2.out.box.frozen 3; have r0 := HG2.out.res.cell 0; have r1 := HG2.out.res.cell 1; have r2 := HG2.out.res.cell 2; have r3 := HG2.out.res.cell 3; have z0 := HG2.out.res.frozen 0; have z1 := HG2.out.res.frozen 1; have z2 := HG2.out.res.frozen 2; have z3 := HG2.out.res.frozen 3; simp only [List.getElem?_toArray, List.getElem?_cons_zero, List.getElem?_cons_succ] at c0 c1 c2 c3 r0 r1 r2 r3; clear hb))
          | (go_at_call 113; go_must ((with_reducible refine (HX0.out _ (HG2.out).sc).mono ?_); rintro e w3 ⟨rfl, hg⟩; have HGE := Lib.hid hg; clear hg)))
        exact ⟨rfl, rfl, gb_trans (HG2.out).gr HGE.out⟩
      | ok v0 k2 =>
        rw [Res.bind_ok]
        have HX0 := Lib.hid (fun W (h : Sc W p l k1) => show Calls Tryd.prog 113 #[.pointer (some ⟨p, 0, none⟩)] W (Did enc64 p l W (.ok v0 k2)) from by have := hX0 W h; rw [hr0] at this; exact this)
        clear hX0 hr0
        go_enter Tryd.func70, Tryd.ntmps70
        go_wp2_with (first
          | (go_at_call 112; go_must ((with_reducible refine HOP.out.mono ?_); rintro e w1 ⟨rfl, hs, hg⟩; have HG1 := Lib.hid (HST.out w1 hs hg); have hh := HG1.out.h2; have n1 : ¬ w1.heap.size = w.heap.size := (by omega); have n2 : ¬ w.heap.size = w1.heap.size := (by omega); clear hs hg hh))
          | (go_at_call 66; go_must ((with_reducible refine (HI.out _ HG1.out.tb.tabs).mono ?_); rintro e w2 ⟨rfl, hb⟩; unfold infV; have HG2 := Lib.hid (HG1.out.below hb); have c0 := HG2.out.box.cell 0; have c1 := HG2.out.box.cell 1; have c2 := HG2.out.box.cell 2; have c3 := HG2.out.box.cell 3; have f1 := HG2.out.box.frozen 1; have f2 := HG2.out.box.frozen 2; have f3 := HG2.out.box.frozen 3; have r0 := HG2.out.res.cell 0; have r1 := HG2.out.res.cell 1; have r2 := HG2.out.res.cell 2; have r3 := HG2.out.res.cell 3; have z0 := HG2.out.res.frozen 0; have z1 := HG2.out.res.frozen 1; have z2 := HG2.out.res.frozen 2; have z3 := HG2.out.res.frozen 3; simp only [List.getElem?_toArray, List.getElem?_cons_zero, List.getElem?_cons_succ] at c0 c1 c2 c3 r0 r1 r2 r3; clear hb))
          | (go_at_call 113; go_must ((with_reducible refine (HX0.out _ (HG2.out).sc).mono ?_); rintro e w3 ⟨rfl, hs, hg⟩; clear c0 c1 c2 c3 f1 f2 f3 r0 r1 r2 r3 z0 z1 z2 z3; have HG3 := Lib.hid ((HG2.out).call hs hg); have c0 := HG3.out.box.cell 0; have c1 := HG3.out.box.cell 1; have c2 := HG3.out.box.cell 2; have c3 := HG3.out.box.cell 3; have f1 := HG3.out.box.frozen 1; have f2 := HG3.out.box.frozen 2; have f3 := HG3.out.box.frozen 3; have r0 := HG3.out.res.cell 0; have r1 := HG3.out.res.cell 1; have r2 := HG3.out.res.cell 2; have r3 := HG3.out.res.cell 3; have z0 := HG3.out.res.frozen 0; have z1 := HG3.out.res.frozen 1; have z2 := HG3.out.res.frozen 2; have z3 := HG3.out.res.frozen 3; simp only [List.getElem?_toArray, List.getElem?_cons_zero, List.getElem?_cons_succ] at c0 c1 c2 c3 r0 r1 r2 r3; clear hs hg)))
        obtain ⟨q, hf⟩ := GSt.fin ((HG3.out.put 1 (.int .u64 v0) rfl)) (.int .u8 c.toNat) (.int .u64 v0) (.int .u64 0) (.slice none 0 0) _ rfl
        have q0 := q.cell 0
        have q1 := q.cell 1
        have q2 := q.cell 2
        have q3 := q.cell 3
        simp only [List.getElem?_toArray, List.getElem?_cons_zero, List.getElem?_cons_succ] at q0 q1 q2 q3
        exact bodyPost_ret (v := insV (⟨c, v0, 0, []⟩ : I) none 0) (by simp [results, Tryd.results70, go_sem, q0, q1, q2, q3]) rfl (gets_end (i := (⟨c, v0, 0, []⟩ : I)) ((HG3.out.put 1 (.int .u64 v0) rfl)) hf rfl rfl)
    have d1 : ((m : Int) == 1) = false := by simp; omega
    by_cases m3 : m = 3
    · subst m3
      rw [show bodyR 3 c l k1 = (labelsR l k1).bind fun ls k1 => (indexR l k1).bind fun a k2 => .ok ⟨c, a, 0, ls⟩ k2 from by unfold bodyR; rw [if_neg (by omega), if_neg (by omega), if_pos rfl]]
      have hX0 := fun W (h : Sc W p l k1) => getLabels_any h
      cases hr0 : labelsR l k1 with
      | err ec ea =>
        rw [Res.bind_err]
        show Calls _ _ _ _ (fun e w' => e = .panicked (stopP ec ea) ∧ w.grownBy w' (some p))
        have HX0 := Lib.hid (fun W (h : Sc W p l k1) => show Calls Tryd.prog 96 #[.pointer (some ⟨p, 0, none⟩)] W (LabsR p l (.err ec ea) W) from by have := hX0 W h; rw [hr0] at this; exact this)
        clear hX0 hr0
        go_enter Tryd.func70, Tryd.ntmps70
        go_wp2_with (first
          | (go_at_call 112; go_must ((with_reducible refine HOP.out.mono ?_); rintro e w1 ⟨rfl, hs, hg⟩; have HG1 := Lib.hid (HST.out w1 hs hg); have hh := HG1.out.h2; have n1 : ¬ w1.heap.size = w.heap.size := (by omega); have n2 : ¬ w.heap.size = w1.heap.size := (by omega); clear hs hg hh))
          | (go_at_call 66; go_must ((with_reducible refine (HI.out _ HG1.out.tb.tabs).mono ?_); rintro e w2 ⟨rfl, hb⟩; unfold infV; have HG2 := Lib.hid (HG1.out.below hb); have c0 := HG2.out.box.cell 0; have c1 := HG2.out.box.cell 1; have c2 := HG2.out.box.cell 2; have c3 := HG2.out.box.cell 3; have f1 := HG2.out.box.frozen 1; have f2 := HG2.out.box.frozen 2; have f3 := HG2.out.box.frozen 3; have r0 := HG2.out.res.cell 0; have r1 := HG2.out.res.cell 1; have r2 := HG2.out.res.cell 2; have r3 := HG2.out.res.cell 3; have z0 := HG2.out.res.frozen 0; have z1 := HG2.out.res.frozen 1; have z2 := HG2.out.res.frozen 2; have z3 := HG2.out.res.frozen 3; simp only [List.getElem?_toArray, List.getElem?_cons_zero, List.getElem?_cons_succ] at c0 c1 c2 c3 r0 r1 r2 r3; clear hb))
          | (go_at_call 96; go_must ((with_reducible refine (HX0.out _ (HG2.out).sc).mono ?_); rintro e w3 ⟨rfl, hg⟩; have HGE := Lib.hid hg; clear hg)))
        exact ⟨rfl, rfl, gb_trans (HG2.out).gr HGE.out⟩
      | ok v0 k2 =>
        rw [Res.bind_ok]
        have HX0 := Lib.hid (fun W (h : Sc W p l k1) => show Calls Tryd.prog 96 #[.pointer (some ⟨p, 0, none⟩)] W (LabsR p l (.ok v0 k2) W) from by have := hX0 W h; rw [hr0] at this; exact this)
        clear hX0 hr0
        have hX1 := fun W (h : Sc W p l k2) => getNumber_any h
        cases hr1 : indexR l k2 with
        | err ec ea =>
          rw [Res.bind_err]
          show Calls _ _ _ _ (fun e w' => e = .panicked (stopP ec ea) ∧ w.grownBy w' (some p))
          have HX1 := Lib.hid (fun W (h : Sc W p l k2) => show Calls Tryd.prog 114 #[.pointer (some ⟨p, 0, none⟩)] W (Did enc64 p l W (.err ec ea)) from by have := hX1 W h; rw [hr1] at this; exact this)
          clear hX1 hr1
          go_enter Tryd.func70, Tryd.ntmps70
          go_wp2_with (first
            | (go_at_call 112; go_must ((with_reducible refine HOP.out.mono ?_); rintro e w1 ⟨rfl, hs, hg⟩; have HG1 := Lib.hid (HST.out w1 hs hg); have hh := HG1.out.h2; have n1 : ¬ w1.heap.size = w.heap.size := (by omega); have n2 : ¬ w.heap.size = w1.heap.size := (by omega); clear hs hg hh))
            | (go_at_call 66; go_must ((with_reducible refine (HI.out _ HG1.out.tb.tabs).mono ?_); rintro e w2 ⟨rfl, hb⟩; unfold infV; have HG2 := Lib.hid (HG1.out.below hb); have c0 := HG2.out.box.cell 0; have c1 := HG2.out.box.cell 1; have c2 := HG2.out.box.cell 2; have c3 := HG2.out.box.cell 3; have f1 := HG2.out.box.frozen 1; have f2 := HG2.out.box.frozen 2; have f3 := HG2.out.box.frozen 3; have r0 := HG2.out.res.cell 0; have r1 := HG2.out.res.cell 1; have r2 := HG2.out.res.cell 2; have r3 := HG2.out.res.cell 3; have z0 := HG2.out.res.frozen 0; have z1 := HG2.out.res.frozen 1; have z2 := HG2.out.res.frozen 2; have z3 := HG2.out.res.frozen 3; simp only [List.getElem?_toArray, List.getElem?_cons_zero, List.getElem?_cons_succ] at c0 c1 c2 c3 r0 r1 r2 r3; clear hb))
            | (have tok := HG3; go_at_call 114; go_must ((with_reducible refine (HX1.out _ ((HG3.out.put 3 (.slice A v0.length cp) rfl)).sc).mono ?_); rintro e w4 ⟨rfl, hg⟩; have HGE := Lib.hid hg; clear hg))
            | (go_at_call 96; go_must ((with_reducible refine (HX0.out _ (HG2.out).sc).mono ?_); intro e w3 hq; obtain ⟨A, cp, rfl, hge, hs, hg, hty⟩ := hq; clear c0 c1 c2 c3 f1 f2 f3 r0 r1 r2 r3 z0 z1 z2 z3; have HG3 := Lib.hid (((HG2.out).call hs hg).labs hty (fun a ha => Nat.lt_of_lt_of_le (HG2.out).box.lt (hge a ha))); have c0 := HG3.out.box.cell 0; have c1 := HG3.out.box.cell 1; have c2 := HG3.out.box.cell 2; have c3 := HG3.out.box.cell 3; have f1 := HG3.out.box.frozen 1; have f2 := HG3.out.box.frozen 2; have f3 := HG3.out.box.frozen 3; have r0 := HG3.out.res.cell 0; have r1 := HG3.out.res.cell 1; have r2 := HG3.out.res.cell 2; have r3 := HG3.out.res.cell 3; have z0 := HG3.out.res.frozen 0; have z1 := HG3.out.res.frozen 1; have z2 := HG3.out.res.frozen 2; have z3 := HG3.out.res.frozen 3; simp only [List.getElem?_toArray, List.getElem?_cons_zero, List.getElem?_cons_succ] at c0 c1 c2 c3 r0 r1 r2 r3; clear hs hg hge hty)))
          exact ⟨rfl, rfl, gb_trans ((HG3.out.put 3 (.slice A v0.length cp) rfl)).gr HGE.out⟩
        | ok v1 k3 =>
          rw [Res.bind_ok]
          have HX1 := Lib.hid (fun W (h : Sc W p l k2) => show Calls Tryd.prog 114 #[.pointer (some ⟨p, 0, none⟩)] W (Did enc64 p l W (.ok v1 k3)) from by have := hX1 W h; rw [hr1] at this; exact this)
          clear hX1 hr1
          go_enter Tryd.func70, Tryd.ntmps70
          go_wp2_with (first
            | (go_at_call 112; go_must ((with_reducible refine HOP.out.mono ?_); rintro e w1 ⟨rfl, hs, hg⟩; have HG1 := Lib.hid (HST.out w1 hs hg); have hh := HG1.out.h2; have n1 : ¬ w1.heap.size = w.heap.size := (by omega); have n2 : ¬ w.heap.size = w1.heap.size := (by omega); clear hs hg hh))
            | (go_at_call 66; go_must ((with_reducible refine (HI.out _ HG1.out.tb.tabs).mono ?_); rintro e w2 ⟨rfl, hb⟩; unfold infV; have HG2 := Lib.hid (HG1.out.below hb); have c0 := HG2.out.box.cell 0; have c1 := HG2.out.box.cell 1; have c2 := HG2.out.box.cell 2; have c3 := HG2.out.box.cell 3; have f1 := HG2.out.box.frozen 1; have f2 := HG2.out.box.frozen 2; have f3 := HG2.out.box.frozen 3; have r0 := HG2.out.res.cell 0; have r1 := HG2.out.res.cell 1; have r2 := HG2.out.res.cell 2; have r3 := HG2.out.res.cell 3; have z0 := HG2.out.res.frozen 0; have z1 := HG2.out.res.frozen 1; have z2 := HG2.out.res.frozen 2; have z3 := HG2.out.res.frozen 3; simp only [List.getElem?_toArray, List.getElem?_cons_zero, List.getElem?_cons_succ] at c0 c1 c2 c3 r0 r1 r2 r3; clear hb))
            | (have tok := HG3; go_at_call 114; go_must ((with_reducible refine (HX1.out _ ((HG3.out.put 3 (.slice A v0.length cp) rfl)).sc).mono ?_); rintro e w4 ⟨rfl, hs, hg⟩; clear c0 c1 c2 c3 f1 f2 f3 r0 r1 r2 r3 z0 z1 z2 z3; have HG4 := Lib.hid (((HG3.out.put 3 (.slice A v0.length cp) rfl)).call hs hg); have c0 := HG4.out.box.cell 0; have c1 := HG4.out.box.cell 1; have c2 := HG4.out.box.cell 2; have c3 := HG4.out.box.cell 3; have f1 := HG4.out.box.frozen 1; have f2 := HG4.out.box.frozen 2; have f3 := HG4.out.box.frozen 3; have r0 := HG4.out.res.cell 0; have r1 := HG4.out.res.cell 1; have r2 := HG4.out.res.cell 2; have r3 := HG4.out.res.cell 3; have z0 := HG4.out.res.frozen 0; have z1 := HG4.out.res.frozen 1; have z2 := HG4.out.res.frozen 2; have z3 := HG4.out.res.frozen 3; simp only [List.getElem?_toArray, List.getElem?_cons_zero, List.getElem?_cons_succ] at c0 c1 c2 c3 r0 r1 r2 r3; clear hs hg))
            | (go_at_call 96; go_must ((with_reducible refine (HX0.out _ (HG2.out).sc).mono ?_); intro e w3 hq; obtain ⟨A, cp, rfl, hge, hs, hg, hty⟩ := hq; clear c0 c1 c2 c3 f1 f2 f3 r0 r1 r2 r3 z0 z1 z2 z3; have HG3 := Lib.hid (((HG2.out).call hs hg).labs hty (fun a ha => Nat.lt_of_lt_of_le (HG2.out).box.lt (hge a ha))); have c0 := HG3.out.box.cell 0; have c1 := HG3.out.box.cell 1; have c2 := HG3.out.box.cell 2; have c3 := HG3.out.box.cell 3; have f1 := HG3.out.box.frozen 1; have f2 := HG3.out.box.frozen 2; have f3 := HG3.out.box.frozen 3; have r0 := HG3.out.res.cell 0; have r1 := HG3.out.res.cell 1; have r2 := HG3.out.res.cell 2; have r3 := HG3.out.res.cell 3; have z0 := HG3.out.res.frozen 0; have z1 := HG3.out.res.frozen 1; have z2 := HG3.out.res.frozen 2; have z3 := HG3.out.res.frozen 3; simp only [List.getElem?_toArray, List.getElem?_cons_zero, List.getElem?_cons_succ] at c0 c1 c2 c3 r0 r1 r2 r3; clear hs hg hge hty)))
          obtain ⟨q, hf⟩ := GSt.fin ((HG4.out.put 1 (.int .u64 v1) rfl)) (.int .u8 c.toNat) (.int .u64 v1) (.int .u64 0) (.slice A v0.length cp) _ rfl
          have q0 := q.cell 0
          have q1 := q.cell 1
          have q2 := q.cell 2
          have q3 := q.cell 3
          simp only [List.getElem?_toArray, List.getElem?_cons_zero, List.getElem?_cons_succ] at q0 q1 q2 q3
          exact bodyPost_ret (v := insV (⟨c, v1, 0, v0⟩ : I) A cp) (by simp [results, Tryd.results70, go_sem, q0, q1, q2, q3]) rfl (gets_end (i := (⟨c, v1, 0, v0⟩ : I)) ((HG4.out.put 1 (.int .u64 v1) rfl)) hf rfl rfl)
    have d3 : ((m : Int) == 3) = false := by simp; omega
    by_cases m5 : m = 5
    · subst m5
      rw [show bodyR 5 c l k1 = (indexR l k1).bind fun a k1 => (noughtR l k1).bind fun _ k2 => .ok ⟨c, a, 0, []⟩ k2 from by unfold bodyR; rw [if_neg (by omega), if_neg (by omega), if_neg (by omega), if_pos rfl]]
      have hX0 := fun W (h : Sc W p l k1) => getNumber_any h
      cases hr0 : indexR l k1 with
      | err ec ea =>
        rw [Res.bind_err]
        show Calls _ _ _ _ (fun e w' => e = .panicked (stopP ec ea) ∧ w.grownBy w' (some p))
        have HX0 := Lib.hid (fun W (h : Sc W p l k1) => show Calls Tryd.prog 114 #[.pointer (some ⟨p, 0, none⟩)] W (Did enc64 p l W (.err ec ea)) from by have := hX0 W h; rw [hr0] at this; exact this)
        clear hX0 hr0
        go_enter Tryd.func70, Tryd.ntmps70
        go_wp2_with (first
          | (go_at_call 112; go_must ((with_reducible refine HOP.out.mono ?_); rintro e w1 ⟨rfl, hs, hg⟩; have HG1 := Lib.hid (HST.out w1 hs hg); have hh := HG1.out.h2; have n1 : ¬ w1.heap.size = w.heap.size := (by omega); have n2 : ¬ w.heap.size = w1.heap.size := (by omega); clear hs hg hh))
          | (go_at_call 66; go_must ((with_reducible refine (HI.out _ HG1.out.tb.tabs).mono ?_); rintro e w2 ⟨rfl, hb⟩; unfold infV; have HG2 := Lib.hid (HG1.out.below hb); have c0 := HG2.out.box.cell 0; have c1 := HG2.out.box.cell 1; have c2 := HG2.out.box.cell 2; have c3 := HG2.out.box.cell 3; have f1 := HG2.out.box.frozen 1; have f2 := HG2.out.box.frozen 2; have f3 := HG2.out.box.frozen 3; have r0 := HG2.out.res.cell 0; have r1 := HG2.out.res.cell 1; have r2 := HG2.out.res.cell 2; have r3 := HG2.out.res.cell 3; have z0 := HG2.out.res.frozen 0; have z1 := HG2.out.res.frozen 1; have z2 := HG2.out.res.frozen 2; have z3 := HG2.out.res.frozen 3; simp only [List.getElem?_toArray, List.getElem?_cons_zero, List.getElem?_cons_succ] at c0 c1 c2 c3 r0 r1 r2 r3; clear hb))
          | (go_at_call 114; go_must ((with_reducible refine (HX0.out _ (HG2.out).sc).mono ?_); rintro e w3 ⟨rfl, hg⟩; have HGE := Lib.hid hg; clear hg)))
        exact ⟨rfl, rfl, gb_trans (HG2.out).gr HGE.out⟩
      | ok v0 k2 =>
        rw [Res.bind_ok]
        have HX0 := Lib.hid (fun W (h : Sc W p l k1) => show Calls Tryd.prog 114 #[.pointer (some ⟨p, 0, none⟩)] W (Did enc64 p l W (.ok v0 k2)) from by have := hX0 W h; rw [hr0] at this; exact this)
        clear hX0 hr0
        have hX1 := fun W (h : Sc W p l k2) => getNought_any h
        cases hr1 : noughtR l k2 with
        | err ec ea =>
          rw [Res.bind_err]
          show Calls _ _ _ _ (fun e w' => e = .panicked (stopP ec ea) ∧ w.grownBy w' (some p))
          have HX1 := Lib.hid (fun W (h : Sc W p l k2) => show Calls Tryd.prog 115 #[.pointer (some ⟨p, 0, none⟩)] W (Did encU p l W (.err ec ea)) from by have := hX1 W h; rw [hr1] at this; exact this)
          clear hX1 hr1
          go_enter Tryd.func70, Tryd.ntmps70
          go_wp2_with (first
            | (go_at_call 112; go_must ((with_reducible refine HOP.out.mono ?_); rintro e w1 ⟨rfl, hs, hg⟩; have HG1 := Lib.hid (HST.out w1 hs hg); have hh := HG1.out.h2; have n1 : ¬ w1.heap.size = w.heap.size := (by omega); have n2 : ¬ w.heap.size = w1.heap.size := (by omega); clear hs hg hh))
            | (go_at_call 66; go_must ((with_reducible refine (HI.out _ HG1.out.tb.tabs).mono ?_); rintro e w2 ⟨rfl, hb⟩; unfold infV; have HG2 := Lib.hid (HG1.out.below hb); have c0 := HG2.out.box.cell 0; have c1 := HG2.out.box.cell 1; have c2 := HG2.out.box.cell 2; have c3 := HG2.out.box.cell 3; have f1 := HG2.out.box.frozen 1; have f2 := HG2.out.box.frozen 2; have f3 := HG2.out.box.frozen 3; have r0 := HG2.out.res.cell 0; have r1 := HG2.out.res.cell 1; have r2 := HG2.out.res.cell 2; have r3 := HG2.out.res.cell 3; have z0 := HG2.out.res.frozen 0; have z1 := HG2.out.res.frozen 1; have z2 := HG2.out.res.frozen 2; have z3 := HG2.out.res.frozen 3; simp only [List.getElem?_toArray, List.getElem?_cons_zero, List.getElem?_cons_succ] at c0 c1 c2 c3 r0 r1 r2 r3; clear hb))
            | (have tok := HG3; go_at_call 115; go_must ((with_reducible refine (HX1.out _ ((HG3.out.put 1 (.int .u64 v0) rfl)).sc).mono ?_); rintro e w4 ⟨rfl, hg⟩; have HGE := Lib.hid hg; clear hg))
            | (go_at_call 114; go_must ((with_reducible refine (HX0.out _ (HG2.out).sc).mono ?_); rintro e w3 ⟨rfl, hs, hg⟩; clear c0 c1 c2 c3 f1 f2 f3 r0 r1 r2 r3 z0 z1 z2 z3; have HG3 := Lib.hid ((HG2.out).call hs hg); have c0 := HG3.out.box.cell 0; have c1 := HG3.out.box.cell 1; have c2 := HG3.out.box.cell 2; have c3 := HG3.out.box.cell 3; have f1 := HG3.out.box.frozen 1; have f2 := HG3.out.box.frozen 2; have f3 := HG3.out.box.frozen 3; have r0 := HG3.out.res.cell 0; have r1 := HG3.out.res.cell 1; have r2 := HG3.out.res.cell 2; have r3 := HG3.out.res.cell 3; have z0 := HG3.out.res.frozen 0; have z1 := HG3.out.res.frozen 1; have z2 := HG3.out.res.frozen 2; have z3 := HG3.out.res.frozen 3; simp only [List.getElem?_toArray, List.getElem?_cons_zero, List.getElem?_cons_succ] at c0 c1 c2 c3 r0 r1 r2 r3; clear hs hg)))
          exact ⟨rfl, rfl, gb_trans ((HG3.out.put 1 (.int .u64 v0) rfl)).gr HGE.out⟩
        | ok v1 k3 =>
          rw [Res.bind_ok]
          have HX1 := Lib.hid (fun W (h : Sc W p l k2) => show Calls Tryd.prog 115 #[.pointer (some ⟨p, 0, none⟩)] W (Did encU p l W (.ok v1 k3)) from by have := hX1 W h; rw [hr1] at this; exact this)
          clear hX1 hr1
          go_enter Tryd.func70, Tryd.ntmps70
          go_wp2_with (first
            | (go_at_call 112; go_must ((with_reducible refine HOP.out.mono ?_); rintro e w1 ⟨rfl, hs, hg⟩; have HG1 := Lib.hid (HST.out w1 hs hg); have hh := HG1.out.h2; have n1 : ¬ w1.heap.size = w.heap.size := (by omega); have n2 : ¬ w.heap.size = w1.heap.size := (by omega); clear hs hg hh))
            | (go_at_call 66; go_must ((with_reducible refine (HI.out _ HG1.out.tb.tabs).mono ?_); rintro e w2 ⟨rfl, hb⟩; unfold infV; have HG2 := Lib.hid (HG1.out.below hb); have c0 := HG2.out.box.cell 0; have c1 := HG2.out.box.cell 1; have c2 := HG2.out.box.cell 2; have c3 := HG2.out.box.cell 3; have f1 := HG2.out.box.frozen 1; have f2 := HG2.out.box.frozen 2; have f3 := HG2.out.box.frozen 3; have r0 := HG2.out.res.cell 0; have r1 := HG2.out.res.cell 1; have r2 := HG2.out.res.cell 2; have r3 := HG2.out.res.cell 3; have z0 := HG2.out.res.frozen 0; have z1 := HG2.out.res.frozen 1; have z2 := HG2.out.res.frozen 2; have z3 := HG2.out.res.frozen 3; simp only [List.getElem?_toArray, List.getElem?_cons_zero, List.getElem?_cons_succ] at c0 c1 c2 c3 r0 r1 r2 r3; clear hb))
            | (have tok := HG3; go_at_call 115; go_must ((with_reducible refine (HX1.out _ ((HG3.out.put 1 (.int .u64 v0) rfl)).sc).mono ?_); rintro e w4 ⟨rfl, hs, hg⟩; clear c0 c1 c2 c3 f1 f2 f3 r0 r1 r2 r3 z0 z1 z2 z3; have HG4 := Lib.hid (((HG3.out.put 1 (.int .u64 v0) rfl)).call hs hg); have c0 := HG4.out.box.cell 0; have c1 := HG4.out.box.cell 1; have c2 := HG4.out.box.cell 2; have c3 := HG4.out.box.cell 3; have f1 := HG4.out.box.frozen 1; have f2 := HG4.out.box.frozen 2; have f3 := HG4.out.box.frozen 3; have r0 := HG4.out.res.cell 0; have r1 := HG4.out.res.cell 1; have r2 := HG4.out.res.cell 2; have r3 := HG4.out.res.cell 3; have z0 := HG4.out.res.frozen 0; have z1 := HG4.out.res.frozen 1; have z2 := HG4.out.res.frozen 2; have z3 := HG4.out.res.frozen 3; simp only [List.getElem?_toArray, List.getElem?_cons_zero, List.getElem?_cons_succ] at c0 c1 c2 c3 r0 r1 r2 r3; clear hs hg))
            | (go_at_call 114; go_must ((with_reducible refine (HX0.out _ (HG2.out).sc).mono ?_); rintro e w3 ⟨rfl, hs, hg⟩; clear c0 c1 c2 c3 f1 f2 f3 r0 r1 r2 r3 z0 z1 z2 z3; have HG3 := Lib.hid ((HG2.out).call hs hg); have c0 := HG3.out.box.cell 0; have c1 := HG3.out.box.cell 1; have c2 := HG3.out.box.cell 2; have c3 := HG3.out.box.cell 3; have f1 := HG3.out.box.frozen 1; have f2 := HG3.out.box.frozen 2; have f3 := HG3.out.box.frozen 3; have r0 := HG3.out.res.cell 0; have r1 := HG3.out.res.cell 1; have r2 := HG3.out.res.cell 2; have r3 := HG3.out.res.cell 3; have z0 := HG3.out.res.frozen 0; have z1 := HG3.out.res.frozen 1; have z2 := HG3.out.res.frozen 2; have z3 := HG3.out.res.frozen 3; simp only [List.getElem?_toArray, List.getElem?_cons_zero, List.getElem?_cons_succ] at c0 c1 c2 c3 r0 r1 r2 r3; clear hs hg)))
          obtain ⟨q, hf⟩ := GSt.fin (HG4.out) (.int .u8 c.toNat) (.int .u64 v0) (.int .u64 0) (.slice none 0 0) _ rfl
          have q0 := q.cell 0
          have q1 := q.cell 1
          have q2 := q.cell 2
          have q3 := q.cell 3
          simp only [List.getElem?_toArray, List.getElem?_cons_zero, List.getElem?_cons_succ] at q0 q1 q2 q3
          exact bodyPost_ret (v := insV (⟨c, v0, 0, []⟩ : I) none 0) (by simp [results, Tryd.results70, go_sem, q0, q1, q2, q3]) rfl (gets_end (i := (⟨c, v0, 0, []⟩ : I)) (HG4.out) hf rfl rfl)
    have d5 : ((m : Int) == 5) = false := by simp; omega
    by_cases m8 : m = 8
    · subst m8
      rw [show bodyR 8 c l k1 = (indexR l k1).bind fun a k1 => (indexR l k1).bind fun b k2 => .ok ⟨c, a, b, []⟩ k2 from by unfold bodyR; rw [if_neg (by omega), if_neg (by omega), if_neg (by omega), if_neg (by omega), if_pos rfl]]
      have hX0 := fun W (h : Sc W p l k1) => getNumber_any h
      cases hr0 : indexR l k1 with
      | err ec ea =>
        rw [Res.bind_err]
        show Calls _ _ _ _ (fun e w' => e = .panicked (stopP ec ea) ∧ w.grownBy w' (some p))
        have HX0 := Lib.hid (fun W (h : Sc W p l k1) => show Calls Tryd.prog 114 #[.pointer (some ⟨p, 0, none⟩)] W (Did enc64 p l W (.err ec ea)) from by have := hX0 W h; rw [hr0] at this; exact this)
        clear hX0 hr0
        go_enter Tryd.func70, Tryd.ntmps70
        go_wp2_with (first
          | (go_at_call 112; go_must ((with_reducible refine HOP.out.mono ?_); rintro e w1 ⟨rfl, hs, hg⟩; have HG1 := Lib.hid (HST.out w1 hs hg); have hh := HG1.out.h2; have n1 : ¬ w1.heap.size = w.heap.size := (by omega); have n2 : ¬ w.heap.size = w1.heap.size := (by omega); clear hs hg hh))
          | (go_at_call 66; go_must ((with_reducible refine (HI.out _ HG1.out.tb.tabs).mono ?_); rintro e w2 ⟨rfl, hb⟩; unfold infV; have HG2 := Lib.hid (HG1.out.below hb); have c0 := HG2.out.box.cell 0; have c1 := HG2.out.box.cell 1; have c2 := HG2.out.box.cell 2; have c3 := HG2.out.box.cell 3; have f1 := HG2.out.box.frozen 1; have f2 := HG2.out.box.frozen 2; have f3 := HG2.out.box.frozen 3; have r0 := HG2.out.res.cell 0; have r1 := HG2.out.res.cell 1; have r2 := HG2.out.res.cell 2; have r3 := HG2.out.res.cell 3; have z0 := HG2.out.res.frozen 0; have z1 := HG2.out.res.frozen 1; have z2 := HG2.out.res.frozen 2; have z3 := HG2.out.res.frozen 3; simp only [List.getElem?_toArray, List.getElem?_cons_zero, List.getElem?_cons_succ] at c0 c1 c2 c3 r0 r1 r2 r3; clear hb))
          | (go_at_call 114; go_must ((with_reducible refine (HX0.out _ (HG2.out).sc).mono ?_); rintro e w3 ⟨rfl, hg⟩; have HGE := Lib.hid hg; clear hg)))
        exact ⟨rfl, rfl, gb_trans (HG2.out).gr HGE.out⟩
      | ok v0 k2 =>
        rw [Res.bind_ok]
        have HX0 := Lib.hid (fun W (h : Sc W p l k1) => show Calls Tryd.prog 114 #[.pointer (some ⟨p, 0, none⟩)] W (Did enc64 p l W (.ok v0 k2)) from by have := hX0 W h; rw [hr0] at this; exact this)
        clear hX0 hr0
        have hX1 := fun W (h : Sc W p l k2) => getNumber_any h
        cases hr1 : indexR l k2 with
        | err ec ea =>
          rw [Res.bind_err]
          show Calls _ _ _ _ (fun e w' => e = .panicked (stopP ec ea) ∧ w.grownBy w' (some p))
          have HX1 := Lib.hid (fun W (h : Sc W p l k2) => show Calls Tryd.prog 114 #[.pointer (some ⟨p, 0, none⟩)] W (Did enc64 p l W (.err ec ea)) from by have := hX1 W h; rw [hr1] at this; exact this)
          clear hX1 hr1
          go_enter Tryd.func70, Tryd.ntmps70
          go_wp2_with (first
            | (go_at_call 112; go_must ((with_reducible refine HOP.out.mono ?_); rintro e w1 ⟨rfl, hs, hg⟩; have HG1 := Lib.hid (HST.out w1 hs hg); have hh := HG1.out.h2; have n1 : ¬ w1.heap.size = w.heap.size := (by omega); have n2 : ¬ w.heap.size = w1.heap.size := (by omega); clear hs hg hh))
            | (go_at_call 66; go_must ((with_reducible refine (HI.out _ HG1.out.tb.tabs).mono ?_); rintro e w2 ⟨rfl, hb⟩; unfold infV; have HG2 := Lib.hid (HG1.out.below hb); have c0 := HG2.out.box.cell 0; have c1 := HG2.out.box.cell 1; have c2 := HG2.out.box.cell 2; have c3 := HG2.out.box.cell 3; have f1 := HG2.out.box.frozen 1; have f2 := HG2.out.box.frozen 2; have f3 := HG2.out.box.frozen 3; have r0 := HG2.out.res.cell 0; have r1 := HG2.out.res.cell 1; have r2 := HG2.out.res.cell 2; have r3 := HG2.out.res.cell 3; have z0 := HG2.out.res.frozen 0; have z1 := HG2.out.res.frozen 1; have z2 := HG2.out.res.frozen 2; have z3 := HG2.out.res.frozen 3; simp only [List.getElem?_toArray, List.getElem?_cons_zero, List.getElem?_cons_succ] at c0 c1 c2 c3 r0 r1 r2 r3; clear hb))
            | (have tok := HG3; go_at_call 114; go_must ((with_reducible refine (HX1.out _ ((HG3.out.put 1 (.int .u64 v0) rfl)).sc).mono ?_); rintro e w4 ⟨rfl, hg⟩; have HGE := Lib.hid hg; clear hg))
            | (go_at_call 114; go_must ((with_reducible refine (HX0.out _ (HG2.out).sc).mono ?_); rintro e w3 ⟨rfl, hs, hg⟩; clear c0 c1 c2 c3 f1 f2 f3 r0 r1 r2 r3 z0 z1 z2 z3; have HG3 := Lib.hid ((HG2.out).call hs hg); have c0 := HG3.out.box.cell 0; have c1 := HG3.out.box.cell 1; have c2 := HG3.out.box.cell 2; have c3 := HG3.out.box.cell 3; have f1 := HG3.out.box.frozen 1; have f2 := HG3.out.box.frozen 2; have f3 := HG3.out.box.frozen 3; have r0 := HG3.out.res.cell 0; have r1 := HG3.out.res.cell 1; have r2 := HG3.out.res.cell 2; have r3 := HG3.out.res.cell 3; have z0 := HG3.out.res.frozen 0; have z1 := HG3.out.res.frozen 1; have z2 := HG3.out.res.frozen 2; have z3 := HG3.out.res.frozen 3; simp only [List.getElem?_toArray, List.getElem?_cons_zero, List.getElem?_cons_succ] at c0 c1 c2 c3 r0 r1 r2 r3; clear hs hg)))
          exact ⟨rfl, rfl, gb_trans ((HG3.out.put 1 (.int .u64 v0) rfl)).gr HGE.out⟩
        | ok v1 k3 =>
          rw [Res.bind_ok]
          have HX1 := Lib.hid (fun W (h : Sc W p l k2) => show Calls Tryd.prog 114 #[.pointer (some ⟨p, 0, none⟩)] W (Did enc64 p l W (.ok v1 k3)) from by have := hX1 W h; rw [hr1] at this; exact this)
          clear hX1 hr1
          go_enter Tryd.func70, Tryd.ntmps70
          go_wp2_with (first
            | (go_at_call 112; go_must ((with_reducible refine HOP.out.mono ?_); rintro e w1 ⟨rfl, hs, hg⟩; have HG1 := Lib.hid (HST.out w1 hs hg); have hh := HG1.out.h2; have n1 : ¬ w1.heap.size = w.heap.size := (by omega); have n2 : ¬ w.heap.size = w1.heap.size := (by omega); clear hs hg hh))
            | (go_at_call 66; go_must ((with_reducible refine (HI.out _ HG1.out.tb.tabs).mono ?_); rintro e w2 ⟨rfl, hb⟩; unfold infV; have HG2 := Lib.hid (HG1.out.below hb); have c0 := HG2.out.box.cell 0; have c1 := HG2.out.box.cell 1; have c2 := HG2.out.box.cell 2; have c3 := HG2.out.box.cell 3; have f1 := HG2.out.box.frozen 1; have f2 := HG2.out.box.frozen 2; have f3 := HG2.out.box.frozen 3; have r0 := HG2.out.res.cell 0; have r1 := HG2.out.res.cell 1; have r2 := HG2.out.res.cell 2; have r3 := HG2.out.res.cell 3; have z0 := HG2.out.res.frozen 0; have z1 := HG2.out.res.frozen 1; have z2 := HG2.out.res.frozen 2; have z3 := HG2.out.res.frozen 3; simp only [List.getElem?_toArray, List.getElem?_cons_zero, List.getElem?_cons_succ] at c0 c1 c2 c3 r0 r1 r2 r3; clear hb))
            | (have tok := HG3; go_at_call 114; go_must ((with_reducible refine (HX1.out _ ((HG3.out.put 1 (.int .u64 v0) rfl)).sc).mono ?_); rintro e w4 ⟨rfl, hs, hg⟩; clear c0 c1 c2 c3 f1 f2 f3 r0 r1 r2 r3 z0 z1 z2 z3; have HG4 := Lib.hid (((HG3.out.put 1 (.int .u64 v0) rfl)).call hs hg); have c0 := HG4.out.box.cell 0; have c1 := HG4.out.box.cell 1; have c2 := HG4.out.box.cell 2; have c3 := HG4.out.box.cell 3; have f1 := HG4.out.box.frozen 1; have f2 := HG4.out.box.frozen 2; have f3 := HG4.out.box.frozen 3; have r0 := HG4.out.res.cell 0; have r1 := HG4.out.res.cell 1; have r2 := HG4.out.res.cell 2; have r3 := HG4.out.res.cell 3; have z0 := HG4.out.res.frozen 0; have z1 := HG4.out.res.frozen 1; have z2 := HG4.out.res.frozen 2; have z3 := HG4.out.res.frozen 3; simp only [List.getElem?_toArray, List.getElem?_cons_zero, List.getElem?_cons_succ] at c0 c1 c2 c3 r0 r1 r2 r3; clear hs hg))
            | (go_at_call 114; go_must ((with_reducible refine (HX0.out _ (HG2.out).sc).mono ?_); rintro e w3 ⟨rfl, hs, hg⟩; clear c0 c1 c2 c3 f1 f2 f3 r0 r1 r2 r3 z0 z1 z2 z3; have HG3 := Lib.hid ((HG2.out).call hs hg); have c0 := HG3.out.box.cell 0; have c1 := HG3.out.box.cell 1; have c2 := HG3.out.box.cell 2; have c3 := HG3.out.box.cell 3; have f1 := HG3.out.box.frozen 1; have f2 := HG3.out.box.frozen 2; have f3 := HG3.out.box.frozen 3; have r0 := HG3.out.res.cell 0; have r1 := HG3.out.res.cell 1; have r2 := HG3.out.res.cell 2; have r3 := HG3.out.res.cell 3; have z0 := HG3.out.res.frozen 0; have z1 := HG3.out.res.frozen 1; have z2 := HG3.out.res.frozen 2; have z3 := HG3.out.res.frozen 3; simp only [List.getElem?_toArray, List.getElem?_cons_zero, List.getElem?_cons_succ] at c0 c1 c2 c3 r0 r1 r2 r3; clear hs hg)))
          obtain ⟨q, hf⟩ := GSt.fin ((HG4.out.put 2 (.int .u64 v1) rfl)) (.int .u8 c.toNat) (.int .u64 v0) (.int .u64 v1) (.slice none 0 0) _ rfl
          have q0 := q.cell 0
          have q1 := q.cell 1
          have q2 := q.cell 2
          have q3 := q.cell 3
          simp only [List.getElem?_toArray, List.getElem?_cons_zero, List.getElem?_cons_succ] at q0 q1 q2 q3
          exact bodyPost_ret (v := insV (⟨c, v0, v1, []⟩ : I) none 0) (by simp [results, Tryd.results70, go_sem, q0, q1, q2, q3]) rfl (gets_end (i := (⟨c, v0, v1, []⟩ : I)) ((HG4.out.put 2 (.int .u64 v1) rfl)) hf rfl rfl)
    have d8 : ((m : Int) == 8) = false := by simp; omega
    by_cases m9 : m = 9
    · subst m9
      rw [show bodyR 9 c l k1 = (noughtR l k1).bind fun _ k1 => .ok ⟨c, 0, 0, []⟩ k1 from by unfold bodyR; rw [if_neg (by omega), if_neg (by omega), if_neg (by omega), if_neg (by omega), if_neg (by omega), if_pos rfl]]
      have hX0 := fun W (h : Sc W p l k1) => getNought_any h
      cases hr0 : noughtR l k1 with
      | err ec ea =>
        rw [Res.bind_err]
        show Calls _ _ _ _ (fun e w' => e = .panicked (stopP ec ea) ∧ w.grownBy w' (some p))
        have HX0 := Lib.hid (fun W (h : Sc W p l k1) => show Calls Tryd.prog 115 #[.pointer (some ⟨p, 0, none⟩)] W (Did encU p l W (.err ec ea)) from by have := hX0 W h; rw [hr0] at this; exact this)
        clear hX0 hr0
        go_enter Tryd.func70, Tryd.ntmps70
        go_wp2_with (first
          | (go_at_call 112; go_must ((with_reducible refine HOP.out.mono ?_); rintro e w1 ⟨rfl, hs, hg⟩; have HG1 := Lib.hid (HST.out w1 hs hg); have hh := HG1.out.h2; have n1 : ¬ w1.heap.size = w.heap.size := (by omega); have n2 : ¬ w.heap.size = w1.heap.size := (by omega); clear hs hg hh))
          | (go_at_call 66; go_must ((with_reducible refine (HI.out _ HG1.out.tb.tabs).mono ?_); rintro e w2 ⟨rfl, hb⟩; unfold infV; have HG2 := Lib.hid (HG1.out.below hb); have c0 := HG2.out.box.cell 0; have c1 := HG2.out.box.cell 1; have c2 := HG2.out.box.cell 2; have c3 := HG2.out.box.cell 3; have f1 := HG2.out.box.frozen 1; have f2 := HG2.out.box.frozen 2; have f3 := HG2.out.box.frozen 3; have r0 := HG2.out.res.cell 0; have r1 := HG2.out.res.cell 1; have r2 := HG2.out.res.cell 2; have r3 := HG2.out.res.cell 3; have z0 := HG2.out.res.frozen 0; have z1 := HG2.out.res.frozen 1; have z2 := HG2.out.res.frozen 2; have z3 := HG2.out.res.frozen 3; simp only [List.getElem?_toArray, List.getElem?_cons_zero, List.getElem?_cons_succ] at c0 c1 c2 c3 r0 r1 r2 r3; clear hb))
          | (go_at_call 115; go_must ((with_reducible refine (HX0.out _ (HG2.out).sc).mono ?_); rintro e w3 ⟨rfl, hg⟩; have HGE := Lib.hid hg; clear hg)))
        exact ⟨rfl, rfl, gb_trans (HG2.out).gr HGE.out⟩
      | ok v0 k2 =>
        rw [Res.bind_ok]
        have HX0 := Lib.hid (fun W (h : Sc W p l k1) => show Calls Tryd.prog 115 #[.pointer (some ⟨p, 0, none⟩)] W (Did encU p l W (.ok v0 k2)) from by have := hX0 W h; rw [hr0] at this; exact this)
        clear hX0 hr0
        go_enter Tryd.func70, Tryd.ntmps70
        go_wp2_with (first
          | (go_at_call 112; go_must ((with_reducible refine HOP.out.mono ?_); rintro e w1 ⟨rfl, hs, hg⟩; have HG1 := Lib.hid (HST.out w1 hs hg); have hh := HG1.out.h2; have n1 : ¬ w1.heap.size = w.heap.size := (by omega); have n2 : ¬ w.heap.size = w1.heap.size := (by omega); clear hs hg hh))
          | (go_at_call 66; go_must ((with_reducible refine (HI.out _ HG1.out.tb.tabs).mono ?_); rintro e w2 ⟨rfl, hb⟩; unfold infV; have HG2 := Lib.hid (HG1.out.below hb); have c0 := HG2.out.box.cell 0; have c1 := HG2.out.box.cell 1; have c2 := HG2.out.box.cell 2; have c3 := HG2.out.box.cell 3; have f1 := HG2.out.box.frozen 1; have f2 := HG2.out.box.frozen 2; have f3 := HG2.out.box.frozen 3; have r0 := HG2.out.res.cell 0; have r1 := HG2.out.res.cell 1; have r2 := HG2.out.res.cell 2; have r3 := HG2.out.res.cell 3; have z0 := HG2.out.res.frozen 0; have z1 := HG2.out.res.frozen 1; have z2 := HG2.out.res.frozen 2; have z3 := HG2.out.res.frozen 3; simp only [List.getElem?_toArray, List.getElem?_cons_zero, List.getElem?_cons_succ] at c0 c1 c2 c3 r0 r1 r2 r3; clear hb))
          | (go_at_call 115; go_must ((with_reducible refine (HX0.out _ (HG2.out).sc).mono ?_); rintro e w3 ⟨rfl, hs, hg⟩; clear c0 c1 c2 c3 f1 f2 f3 r0 r1 r2 r3 z0 z1 z2 z3; have HG3 := Lib.hid ((HG2.out).call hs hg); have c0 := HG3.out.box.cell 0; have c1 := HG3.out.box.cell 1; have c2 := HG3.out.box.cell 2; have c3 := HG3.out.box.cell 3; have f1 := HG3.out.box.frozen 1; have f2 := HG3.out.box.frozen 2; have f3 := HG3.out.box.frozen 3; have r0 := HG3.out.res.cell 0; have r1 := HG3.out.res.cell 1; have r2 := HG3.out.res.cell 2; have r3 := HG3.out.res.cell 3; have z0 := HG3.out.res.frozen 0; have z1 := HG3.out.res.frozen 1; have z2 := HG3.out.res.frozen 2; have z3 := HG3.out.res.frozen 3; simp only [List.getElem?_toArray, List.getElem?_cons_zero, List.getElem?_cons_succ] at c0 c1 c2 c3 r0 r1 r2 r3; clear hs hg)))
        obtain ⟨q, hf⟩ := GSt.fin (HG3.out) (.int .u8 c.toNat) (.int .u64 0) (.int .u64 0) (.slice none 0 0) _ rfl
        have q0 := q.cell 0
        have q1 := q.cell 1
        have q2 := q.cell 2
        have q3 := q.cell 3
        simp only [List.getElem?_toArray, List.getElem?_cons_zero, List.getElem?_cons_succ] at q0 q1 q2 q3
        exact bodyPost_ret (v := insV (⟨c, 0, 0, []⟩ : I) none 0) (by simp [results, Tryd.results70, go_sem, q0, q1, q2, q3]) rfl (gets_end (i := (⟨c, 0, 0, []⟩ : I)) (HG3.out) hf rfl rfl)
    have d9 : ((m : Int) == 9) = false := by simp; omega
    by_cases m10 : m = 10
    · subst m10
      rw [show bodyR 10 c l k1 = (intR l k1 32).bind fun v k1 => .ok ⟨c, v % 4294967296, 0, []⟩ k1 from by unfold bodyR; rw [if_neg (by omega), if_neg (by omega), if_neg (by omega), if_neg (by omega), if_neg (by omega), if_neg (by omega), if_pos rfl]]
      have hX0 := fun W (h : Sc W p l k1) => int_any2 h 32
      cases hr0 : intR l k1 32 with
      | err ec ea =>
        rw [Res.bind_err]
        show Calls _ _ _ _ (fun e w' => e = .panicked (stopP ec ea) ∧ w.grownBy w' (some p))
        have HX0 := Lib.hid (fun W (h : Sc W p l k1) => show Calls Tryd.prog 116 #[.pointer (some ⟨p, 0, none⟩), .int .i64 32] W (Did encS64 p l W (.err ec ea)) from by have := hX0 W h; rw [hr0] at this; exact this)
        clear hX0 hr0
        go_enter Tryd.func70, Tryd.ntmps70
        go_wp2_with (first
          | (go_at_call 112; go_must ((with_reducible refine HOP.out.mono ?_); rintro e w1 ⟨rfl, hs, hg⟩; have HG1 := Lib.hid (HST.out w1 hs hg); have hh := HG1.out.h2; have n1 : ¬ w1.heap.size = w.heap.size := (by omega); have n2 : ¬ w.heap.size = w1.heap.size := (by omega); clear hs hg hh))
          | (go_at_call 66; go_must ((with_reducible refine (HI.out _ HG1.out.tb.tabs).mono ?_); rintro e w2 ⟨rfl, hb⟩; unfold infV; have HG2 := Lib.hid (HG1.out.below hb); have c0 := HG2.out.box.cell 0; have c1 := HG2.out.box.cell 1; have c2 := HG2.out.box.cell 2; have c3 := HG2.out.box.cell 3; have f1 := HG2.out.box.frozen 1; have f2 := HG2.out.box.frozen 2; have f3 := HG2.out.box.frozen 3; have r0 := HG2.out.res.cell 0; have r1 := HG2.out.res.cell 1; have r2 := HG2.out.res.cell 2; have r3 := HG2.out.res.cell 3; have z0 := HG2.out.res.frozen 0; have z1 := HG2.out.res.frozen 1; have z2 := HG2.out.res.frozen 2; have z3 := HG2.out.res.frozen 3; simp only [List.getElem?_toArray, List.getElem?_cons_zero, List.getElem?_cons_succ] at c0 c1 c2 c3 r0 r1 r2 r3; clear hb))
          | (go_at_call 116; go_must ((with_reducible refine (HX0.out _ (HG2.out).sc).mono ?_); rintro e w3 ⟨rfl, hg⟩; have HGE := Lib.hid hg; clear hg)))
        exact ⟨rfl, rfl, gb_trans (HG2.out).gr HGE.out⟩
      | ok v0 k2 =>
        rw [Res.bind_ok]
        have HX0 := Lib.hid (fun W (h : Sc W p l k1) => show Calls Tryd.prog 116 #[.pointer (some ⟨p, 0, none⟩), .int .i64 32] W (Did encS64 p l W (.ok v0 k2)) from by have := hX0 W h; rw [hr0] at this; exact this)
        clear hX0 hr0
        obtain ⟨x, hx⟩ : ∃ x, x = v0 % 4294967296 := ⟨_, rfl⟩
        rw [← hx]
        have hw : IntKind.u32.wrap v0 = x := by rw [hx]; simp [IntKind.wrap, IntKind.bits, IntKind.signed]
        have hw2 : IntKind.u64.wrap x = x := by rw [hx]; simp [IntKind.wrap, IntKind.bits, IntKind.signed]; omega
        clear hx
        go_enter Tryd.func70, Tryd.ntmps70
        go_wp2_with (first
          | (go_at_call 112; go_must ((with_reducible refine HOP.out.mono ?_); rintro e w1 ⟨rfl, hs, hg⟩; have HG1 := Lib.hid (HST.out w1 hs hg); have hh := HG1.out.h2; have n1 : ¬ w1.heap.size = w.heap.size := (by omega); have n2 : ¬ w.heap.size = w1.heap.size := (by omega); clear hs hg hh))
          | (go_at_call 66; go_must ((with_reducible refine (HI.out _ HG1.out.tb.tabs).mono ?_); rintro e w2 ⟨rfl, hb⟩; unfold infV; have HG2 := Lib.hid (HG1.out.below hb); have c0 := HG2.out.box.cell 0; have c1 := HG2.out.box.cell 1; have c2 := HG2.out.box.cell 2; have c3 := HG2.out.box.cell 3; have f1 := HG2.out.box.frozen 1; have f2 := HG2.out.box.frozen 2; have f3 := HG2.out.box.frozen 3; have r0 := HG2.out.res.cell 0; have r1 := HG2.out.res.cell 1; have r2 := HG2.out.res.cell 2; have r3 := HG2.out.res.cell 3; have z0 := HG2.out.res.frozen 0; have z1 := HG2.out.res.frozen 1; have z2 := HG2.out.res.frozen 2; have z3 := HG2.out.res.frozen 3; simp only [List.getElem?_toArray, List.getElem?_cons_zero, List.getElem?_cons_succ] at c0 c1 c2 c3 r0 r1 r2 r3; clear hb))
          | (go_at_call 116; go_must ((with_reducible refine (HX0.out _ (HG2.out).sc).mono ?_); rintro e w3 ⟨rfl, hs, hg⟩; clear c0 c1 c2 c3 f1 f2 f3 r0 r1 r2 r3 z0 z1 z2 z3; have HG3 := Lib.hid ((HG2.out).call hs hg); have c0 := HG3.out.box.cell 0; have c1 := HG3.out.box.cell 1; have c2 := HG3.out.box.cell 2; have c3 := HG3.out.box.cell 3; have f1 := HG3.out.box.frozen 1; have f2 := HG3.out.box.frozen 2; have f3 := HG3.out.box.frozen 3; have r0 := HG3.out.res.cell 0; have r1 := HG3.out.res.cell 1; have r2 := HG3.out.res.cell 2; have r3 := HG3.out.res.cell 3; have z0 := HG3.out.res.frozen 0; have z1 := HG3.out.res.frozen 1; have z2 := HG3.out.res.frozen 2; have z3 := HG3.out.res.frozen 3; simp only [List.getElem?_toArray, List.getElem?_cons_zero, List.getElem?_cons_succ] at c0 c1 c2 c3 r0 r1 r2 r3; clear hs hg)))
        obtain ⟨q, hf⟩ := GSt.fin ((HG3.out.put 1 (.int .u64 x) rfl)) (.int .u8 c.toNat) (.int .u64 x) (.int .u64 0) (.slice none 0 0) _ rfl
        have q0 := q.cell 0
        have q1 := q.cell 1
        have q2 := q.cell 2
        have q3 := q.cell 3
        simp only [List.getElem?_toArray, List.getElem?_cons_zero, List.getElem?_cons_succ] at q0 q1 q2 q3
        exact bodyPost_ret (v := insV (⟨c, x, 0, []⟩ : I) none 0) (by simp [results, Tryd.results70, go_sem, q0, q1, q2, q3]) rfl (gets_end (i := (⟨c, x, 0, []⟩ : I)) ((HG3.out.put 1 (.int .u64 x) rfl)) hf rfl rfl)
    have d10 : ((m : Int) == 10) = false := by simp; omega
    by_cases m11 : m = 11
    · subst m11
      rw [show bodyR 11 c l k1 = (intR l k1 64).bind fun v k1 => .ok ⟨c, v % 18446744073709551616, 0, []⟩ k1 from by unfold bodyR; rw [if_neg (by omega), if_neg (by omega), if_neg (by omega), if_neg (by omega), if_neg (by omega), if_neg (by omega), if_neg (by omega), if_pos rfl]]
      have hX0 := fun W (h : Sc W p l k1) => int_any2 h 64
      cases hr0 : intR l k1 64 with
      | err ec ea =>
        rw [Res.bind_err]
        show Calls _ _ _ _ (fun e w' => e = .panicked (stopP ec ea) ∧ w.grownBy w' (some p))
        have HX0 := Lib.hid (fun W (h : Sc W p l k1) => show Calls Tryd.prog 116 #[.pointer (some ⟨p, 0, none⟩), .int .i64 64] W (Did encS64 p l W (.err ec ea)) from by have := hX0 W h; rw [hr0] at this; exact this)
        clear hX0 hr0
        go_enter Tryd.func70, Tryd.ntmps70
        go_wp2_with (first
          | (go_at_call 112; go_must ((with_reducible refine HOP.out.mono ?_); rintro e w1 ⟨rfl, hs, hg⟩; have HG1 := Lib.hid (HST.out w1 hs hg); have hh := HG1.out.h2; have n1 : ¬ w1.heap.size = w.heap.size := (by omega); have n2 : ¬ w.heap.size = w1.heap.size := (by omega); clear hs hg hh))
          | (go_at_call 66; go_must ((with_reducible refine (HI.out _ HG1.out.tb.tabs).mono ?_); rintro e w2 ⟨rfl, hb⟩; unfold infV; have HG2 := Lib.hid (HG1.out.below hb); have c0 := HG2.out.box.cell 0; have c1 := HG2.out.box.cell 1; have c2 := HG2.out.box.cell 2; have c3 := HG2.out.box.cell 3; have f1 := HG2.out.box.frozen 1; have f2 := HG2.out.box.frozen 2; have f3 := HG2.out.box.frozen 3; have r0 := HG2.out.res.cell 0; have r1 := HG2.out.res.cell 1; have r2 := HG2.out.res.cell 2; have r3 := HG2.out.res.cell 3; have z0 := HG2.out.res.frozen 0; have z1 := HG2.out.res.frozen 1; have z2 := HG2.out.res.frozen 2; have z3 := HG2.out.res.frozen 3; simp only [List.getElem?_toArray, List.getElem?_cons_zero, List.getElem?_cons_succ] at c0 c1 c2 c3 r0 r1 r2 r3; clear hb))
          | (go_at_call 116; go_must ((with_reducible refine (HX0.out _ (HG2.out).sc).mono ?_); rintro e w3 ⟨rfl, hg⟩; have HGE := Lib.hid hg; clear hg)))
        exact ⟨rfl, rfl, gb_trans (HG2.out).gr HGE.out⟩
      | ok v0 k2 =>
        rw [Res.bind_ok]
        have HX0 := Lib.hid (fun W (h : Sc W p l k1) => show Calls Tryd.prog 116 #[.pointer (some ⟨p, 0, none⟩), .int .i64 64] W (Did encS64 p l W (.ok v0 k2)) from by have := hX0 W h; rw [hr0] at this; exact this)
        clear hX0 hr0
        obtain ⟨x, hx⟩ : ∃ x, x = v0 % 18446744073709551616 := ⟨_, rfl⟩
        rw [← hx]
        have hw : IntKind.u64.wrap v0 = x := by rw [hx]; simp [IntKind.wrap, IntKind.bits, IntKind.signed]
        clear hx
        go_enter Tryd.func70, Tryd.ntmps70
        go_wp2_with (first
          | (go_at_call 112; go_must ((with_reducible refine HOP.out.mono ?_); rintro e w1 ⟨rfl, hs, hg⟩; have HG1 := Lib.hid (HST.out w1 hs hg); have hh := HG1.out.h2; have n1 : ¬ w1.heap.size = w.heap.size := (by omega); have n2 : ¬ w.heap.size = w1.heap.size := (by omega); clear hs hg hh))
          | (go_at_call 66; go_must ((with_reducible refine (HI.out _ HG1.out.tb.tabs).mono ?_); rintro e w2 ⟨rfl, hb⟩; unfold infV; have HG2 := Lib.hid (HG1.out.below hb); have c0 := HG2.out.box.cell 0; have c1 := HG2.out.box.cell 1; have c2 := HG2.out.box.cell 2; have c3 := HG2.out.box.cell 3; have f1 := HG2.out.box.frozen 1; have f2 := HG2.out.box.frozen 2; have f3 := HG2.out.box.frozen 3; have r0 := HG2.out.res.cell 0; have r1 := HG2.out.res.cell 1; have r2 := HG2.out.res.cell 2; have r3 := HG2.out.res.cell 3; have z0 := HG2.out.res.frozen 0; have z1 := HG2.out.res.frozen 1; have z2 := HG2.out.res.frozen 2; have z3 := HG2.out.res.frozen 3; simp only [List.getElem?_toArray, List.getElem?_cons_zero, List.getElem?_cons_succ] at c0 c1 c2 c3 r0 r1 r2 r3; clear hb))
          | (go_at_call 116; go_must ((with_reducible refine (HX0.out _ (HG2.out).sc).mono ?_); rintro e w3 ⟨rfl, hs, hg⟩; clear c0 c1 c2 c3 f1 f2 f3 r0 r1 r2 r3 z0 z1 z2 z3; have HG3 := Lib.hid ((HG2.out).call hs hg); have c0 := HG3.out.box.cell 0; have c1 := HG3.out.box.cell 1; have c2 := HG3.out.box.cell 2; have c3 := HG3.out.box.cell 3; have f1 := HG3.out.box.frozen 1; have f2 := HG3.out.box.frozen 2; have f3 := HG3.out.box.frozen 3; have r0 := HG3.out.res.cell 0; have r1 := HG3.out.res.cell 1; have r2 := HG3.out.res.cell 2; have r3 := HG3.out.res.cell 3; have z0 := HG3.out.res.frozen 0; have z1 := HG3.out.res.frozen 1; have z2 := HG3.out.res.frozen 2; have z3 := HG3.out.res.frozen 3; simp only [List.getElem?_toArray, List.getElem?_cons_zero, List.getElem?_cons_succ] at c0 c1 c2 c3 r0 r1 r2 r3; clear hs hg)))
        obtain ⟨q, hf⟩ := GSt.fin ((HG3.out.put 1 (.int .u64 x) rfl)) (.int .u8 c.toNat) (.int .u64 x) (.int .u64 0) (.slice none 0 0) _ rfl
        have q0 := q.cell 0
        have q1 := q.cell 1
        have q2 := q.cell 2
        have q3 := q.cell 3
        simp only [List.getElem?_toArray, List.getElem?_cons_zero, List.getElem?_cons_succ] at q0 q1 q2 q3
        exact bodyPost_ret (v := insV (⟨c, x, 0, []⟩ : I) none 0) (by simp [results, Tryd.results70, go_sem, q0, q1, q2, q3]) rfl (gets_end (i := (⟨c, x, 0, []⟩ : I)) ((HG3.out.put 1 (.int .u64 x) rfl)) hf rfl rfl)
    have d11 : ((m : Int) == 11) = false := by simp; omega
    rw [show bodyR m c l k1 = (indexR l k1).bind fun a k1 => .ok ⟨c, a, 0, []⟩ k1 from by unfold bodyR; rw [if_neg m0, if_neg m1, if_neg m3, if_neg m5, if_neg m8, if_neg m9, if_neg m10, if_neg m11]]
    have hX0 := fun W (h : Sc W p l k1) => getNumber_any h
    cases hr0 : indexR l k1 with
    | err ec ea =>
      rw [Res.bind_err]
      show Calls _ _ _ _ (fun e w' => e = .panicked (stopP ec ea) ∧ w.grownBy w' (some p))
      have HX0 := Lib.hid (fun W (h : Sc W p l k1) => show Calls Tryd.prog 114 #[.pointer (some ⟨p, 0, none⟩)] W (Did enc64 p l W (.err ec ea)) from by have := hX0 W h; rw [hr0] at this; exact this)
      clear hX0 hr0
      go_enter Tryd.func70, Tryd.ntmps70
      go_wp2_with (first
        | (go_at_call 112; go_must ((with_reducible refine HOP.out.mono ?_); rintro e w1 ⟨rfl, hs, hg⟩; have HG1 := Lib.hid (HST.out w1 hs hg); have hh := HG1.out.h2; have n1 : ¬ w1.heap.size = w.heap.size := (by omega); have n2 : ¬ w.heap.size = w1.heap.size := (by omega); clear hs hg hh))
        | (go_at_call 66; go_must ((with_reducible refine (HI.out _ HG1.out.tb.tabs).mono ?_); rintro e w2 ⟨rfl, hb⟩; unfold infV; have HG2 := Lib.hid (HG1.out.below hb); have c0 := HG2.out.box.cell 0; have c1 := HG2.out.box.cell 1; have c2 := HG2.out.box.cell 2; have c3 := HG2.out.box.cell 3; have f1 := HG2.out.box.frozen 1; have f2 := HG2.out.box.frozen 2; have f3 := HG2.out.box.frozen 3; have r0 := HG2.out.res.cell 0; have r1 := HG2.out.res.cell 1; have r2 := HG2.out.res.cell 2; have r3 := HG2.out.res.cell 3; have z0 := HG2.out.res.frozen 0; have z1 := HG2.out.res.frozen 1; have z2 := HG2.out.res.frozen 2; have z3 := HG2.out.res.frozen 3; simp only [List.getElem?_toArray, List.getElem?_cons_zero, List.getElem?_cons_succ] at c0 c1 c2 c3 r0 r1 r2 r3; clear hb))
        | (go_at_call 114; go_must ((with_reducible refine (HX0.out _ (HG2.out).sc).mono ?_); rintro e w3 ⟨rfl, hg⟩; have HGE := Lib.hid hg; clear hg)))
      exact ⟨rfl, rfl, gb_trans (HG2.out).gr HGE.out⟩
    | ok v0 k2 =>
      rw [Res.bind_ok]
      have HX0 := Lib.hid (fun W (h : Sc W p l k1) => show Calls Tryd.prog 114 #[.pointer (some ⟨p, 0, none⟩)] W (Did enc64 p l W (.ok v0 k2)) from by have := hX0 W h; rw [hr0] at this; exact this)
      clear hX0 hr0
      go_enter Tryd.func70, Tryd.ntmps70
      go_wp2_with (first
        | (go_at_call 112; go_must ((with_reducible refine HOP.out.mono ?_); rintro e w1 ⟨rfl, hs, hg⟩; have HG1 := Lib.hid (HST.out w1 hs hg); have hh := HG1.out.h2; have n1 : ¬ w1.heap.size = w.heap.size := (by omega); have n2 : ¬ w.heap.size = w1.heap.size := (by omega); clear hs hg hh))
        | (go_at_call 66; go_must ((with_reducible refine (HI.out _ HG1.out.tb.tabs).mono ?_); rintro e w2 ⟨rfl, hb⟩; unfold infV; have HG2 := Lib.hid (HG1.out.below hb); have c0 := HG2.out.box.cell 0; have c1 := HG2.out.box.cell 1; have c2 := HG2.out.box.cell 2; have c3 := HG2.out.box.cell 3; have f1 := HG2.out.box.frozen 1; have f2 := HG2.out.box.frozen 2; have f3 := HG2.out.box.frozen 3; have r0 := HG2.out.res.cell 0; have r1 := HG2.out.res.cell 1; have r2 := HG2.out.res.cell 2; have r3 := HG2.out.res.cell 3; have z0 := HG2.out.res.frozen 0; have z1 := HG2.out.res.frozen 1; have z2 := HG2.out.res.frozen 2; have z3 := HG2.out.res.frozen 3; simp only [List.getElem?_toArray, List.getElem?_cons_zero, List.getElem?_cons_succ] at c0 c1 c2 c3 r0 r1 r2 r3; clear hb))
        | (go_at_call 114; go_must ((with_reducible refine (HX0.out _ (HG2.out).sc).mono ?_); rintro e w3 ⟨rfl, hs, hg⟩; clear c0 c1 c2 c3 f1 f2 f3 r0 r1 r2 r3 z0 z1 z2 z3; have HG3 := Lib.hid ((HG2.out).call hs hg); have c0 := HG3.out.box.cell 0; have c1 := HG3.out.box.cell 1; have c2 := HG3.out.box.cell 2; have c3 := HG3.out.box.cell 3; have f1 := HG3.out.box.frozen 1; have f2 := HG3.out.box.frozen 2; have f3 := HG3.out.box.frozen 3; have r0 := HG3.out.res.cell 0; have r1 := HG3.out.res.cell 1; have r2 := HG3.out.res.cell 2; have r3 := HG3.out.res.cell 3; have z0 := HG3.out.res.frozen 0; have z1 := HG3.out.res.frozen 1; have z2 := HG3.out.res.frozen 2; have z3 := HG3.out.res.frozen 3; simp only [List.getElem?_toArray, List.getElem?_cons_zero, List.getElem?_cons_succ] at c0 c1 c2 c3 r0 r1 r2 r3; clear hs hg)))
      obtain ⟨q, hf⟩ := GSt.fin ((HG3.out.put 1 (.int .u64 v0) rfl)) (.int .u8 c.toNat) (.int .u64 v0) (.int .u64 0) (.slice none 0 0) _ rfl
      have q0 := q.cell 0
      have q1 := q.cell 1
      have q2 := q.cell 2
      have q3 := q.cell 3
      simp only [List.getElem?_toArray, List.getElem?_cons_zero, List.getElem?_cons_succ] at q0 q1 q2 q3
      exact bodyPost_ret (v := insV (⟨c, v0, 0, []⟩ : I) none 0) (by simp [results, Tryd.results70, go_sem, q0, q1, q2, q3]) rfl (gets_end (i := (⟨c, v0, 0, []⟩ : I)) ((HG3.out.put 1 (.int .u64 v0) rfl)) hf rfl rfl)
end Go.Proofs.YtebgmfjgapmpfaaDoor

/- consts.Read of any bytes. -/
namespace Go.Proofs.YtebgmfjgapmpfaaDoor
open Go.RowKit
set_option linter.unusedVariables false
set_option maxRecDepth 100000

/-- How far Read has come: its result's block, the instruction's box, the scanner. -/
structure RdS (w : World) (p : Nat) (l : List UInt8) (H2 : Nat) (i : I) (A : Option Addr) (c k : Nat) (W : World) : Prop where
  res : Whole W w.heap.size 25 #[.int .u8 0, .int .u64 0, .int .u64 0, .slice none 0 0]
  box : Whole W H2 25 (insC i A c)
  sc : Sc W p l k
  gr : w.grownBy W (some p)
  hp : p < w.heap.size
  h2 : w.heap.size < H2
  tb : TbP p W
  ty : LabT W A i.l
  far : ∀ a, A = some a → w.heap.size ≤ a.block
section
variable {w : World} {p : Nat} {l : List UInt8} {H2 : Nat} {i : I} {A : Option Addr} {c k k' : Nat} {W W' : World}
theorem Sc.whole {w : World} {p : Nat} {l : List UInt8} {k : Nat} (h : Sc w p l k) : ∃ cs, Whole w p 131 cs := by
  obtain ⟨A, cap, h1, _⟩ := h
  exact ⟨_, h1⟩
theorem RdS.call (h : RdS w p l H2 i A c k W) (hs : Sc W' p l k') (hg : W.grownBy W' (some p)) : RdS w p l H2 i A c k' W' := by
  have a := h.hp
  have b := h.h2
  obtain ⟨cs, hw⟩ := h.sc.whole
  exact ⟨h.res.grown hg (by simp only [ne_eq, Option.some.injEq]; omega), h.box.grown hg (by simp only [ne_eq, Option.some.injEq]; omega), hs, gb_trans h.gr hg, h.hp, h.h2, h.tb.self hg, h.ty.keep hg (h.ty.apart hw (by decide)), h.far⟩
theorem RdS.below (h : RdS w p l H2 i A c k W) (hb : Below W.heap.size W W') : RdS w p l H2 i A c k W' := h.call (h.sc.below hb) (gb_of_below _ hb)
theorem RdS.fin (h : RdS w p l H2 i A c k W) (W4 : World) (hW : W4 = (((W.setCell ⟨w.heap.size, 0, none⟩ (.int .u8 i.op.toNat)).setCell ⟨w.heap.size, 1, none⟩ (.int .u64 i.a)).setCell ⟨w.heap.size, 2, none⟩ (.int .u64 i.b)).setCell ⟨w.heap.size, 3, none⟩ (.slice A i.l.length c)) :
    Whole W4 w.heap.size 25 (insC i A c) ∧ Gets p l i k w (.returned (insV i A c)) W4 := by
  subst hW
  have a := h.hp
  have b := h.h2
  have hg := gb_put (p := ⟨w.heap.size, 3, none⟩) (gb_put (p := ⟨w.heap.size, 2, none⟩) (gb_put (p := ⟨w.heap.size, 1, none⟩) (gb_put (p := ⟨w.heap.size, 0, none⟩) (gb_refl W (some w.heap.size)) (.inl rfl) (.int .u8 i.op.toNat)) (.inl rfl) (.int .u64 i.a)) (.inl rfl) (.int .u64 i.b)) (.inl rfl) (.slice A i.l.length c)
  have hty := h.ty.keep hg (h.ty.apart h.res (by decide))
  exact ⟨(((h.res.put 0 (.int .u8 i.op.toNat)).put 1 (.int .u64 i.a)).put 2 (.int .u64 i.b)).put 3 (.slice A i.l.length c),
    A, c, rfl, hty.lies, h.far, h.sc.grown hg (by simp only [ne_eq, Option.some.injEq]; omega) (fun g e => by injection e with e; omega), gb_before h.gr hg (fun g e => .inr (by injection e with e; omega)), hty⟩
end
set_option maxHeartbeats 4000000 in
theorem cread_any {w : World} {p : Nat} {l : List UInt8} {k : Nat} (hs : Sc w p l k) (hT : TbP p w) :
    Calls Tryd.prog 32 #[.pointer (some ⟨p, 0, none⟩)] w (GetsR p l (readR l k) w) := by
  have hlt := hs.lt
  have HZ : Hid (Sc (w.alloc (.cells #[.int .u8 0, .int .u64 0, .int .u64 0, .slice none 0 0] 25)) p l k ∧ TbP p (w.alloc (.cells #[.int .u8 0, .int .u64 0, .int .u64 0, .slice none 0 0] 25))) := ⟨hs.alloc _, hT.below (below_box w _) (by omega)⟩
  have hG := getA_any HZ.out.1 HZ.out.2
  have HAT := Lib.hid (at_any HZ.out.1)
  unfold readR
  cases hr : getR l k with
  | err ec ea =>
    rw [hr] at hG
    rw [Res.bind_err]
    show Calls _ _ _ _ (fun e w' => e = .panicked (stopP ec ea) ∧ w.grownBy w' (some p))
    have HG := Lib.hid hG
    clear hs hT hG hr HZ
    go_enter Tryd.func32, Tryd.ntmps32
    go_wp2_with (first
      | (go_at_call 34; go_must ((with_reducible refine HAT.out.mono ?_); rintro e w' ⟨rfl, rfl⟩))
      | (go_at_call 70; go_must ((with_reducible refine HG.out.mono ?_); rintro e w1 ⟨rfl, hg⟩; have HGE := Lib.hid hg; clear hg)))
    exact ⟨rfl, rfl, gb_trans (gb_alloc (gb_refl w _) _) HGE.out⟩
  | ok i k1 =>
    rw [hr] at hG
    rw [Res.bind_ok]
    obtain ⟨oi, hl10, hk1⟩ := getR_ok hr
    have HG := Lib.hid (show Calls Tryd.prog 70 #[.pointer (some ⟨p, 0, none⟩)] (w.alloc (.cells #[.int .u8 0, .int .u64 0, .int .u64 0, .slice none 0 0] 25)) (Gets p l i k1 (w.alloc (.cells #[.int .u8 0, .int .u64 0, .int .u64 0, .slice none 0 0] 25))) from hG)
    have HWM := Lib.hid (Whole.made w 25 #[.int .u8 0, .int .u64 0, .int .u64 0, .slice none 0 0])
    have hstart : ∀ w1 (A : Option Addr) (c : Nat), Sc w1 p l k1 → (w.alloc (.cells #[.int .u8 0, .int .u64 0, .int .u64 0, .slice none 0 0] 25)).grownBy w1 (some p) → LabT w1 A i.l → (∀ a, A = some a → (w.alloc (.cells #[.int .u8 0, .int .u64 0, .int .u64 0, .slice none 0 0] 25)).heap.size ≤ a.block) →
        RdS w p l w1.heap.size i A c k1 (w1.alloc (.cells (insC i A c) 25)) := fun w1 A c hs1 hg1 hty hfar => by
      have hz := hg1.size
      rw [size_box] at hz
      exact ⟨(HWM.out.grown hg1 (by simp only [ne_eq, Option.some.injEq]; omega)).alloc _, Whole.made _ _ _, hs1.alloc _, gb_alloc (gb_trans (gb_alloc (gb_refl w _) _) hg1) _, hlt, by omega, (HZ.out.2.self hg1).below (below_box w1 _) (by omega), hty.keep (gb_of_below none (below_box w1 _)) (fun a e => by simp), fun a ha => by have := hfar a ha; rw [size_box] at this; omega⟩
    have HST := Lib.hid hstart
    have HCR := Lib.hid (fun W (A : Option Addr) (c : Nat) (h : Tabs W) => cright_any i A c W oi h (by omega))
    clear hs hT hG hr hstart hl10 hk1 oi
    obtain ⟨z, hz⟩ : ∃ z, z = crightZ i := ⟨_, rfl⟩
    rw [← hz] at HCR ⊢
    clear hz
    by_cases h0 : z = 0
    · subst h0
      rw [if_pos rfl]
      have hB := fun W (h : Sc W p l k1) => byte_any h
      have HA1 := Lib.hid (fun W (h : Sc W p l k1) => at_any h)
      cases hb : byteR l k1 with
      | err ec ea =>
        rw [Res.bind_err]
        show Calls _ _ _ _ (fun e w' => e = .panicked (stopP ec ea) ∧ w.grownBy w' (some p))
        have HB := Lib.hid (fun W (h : Sc W p l k1) => show Calls Tryd.prog 81 #[.pointer (some ⟨p, 0, none⟩)] W (Did encB p l W (.err ec ea)) from by have := hB W h; rw [hb] at this; exact this)
        clear hB hb HZ
        go_enter Tryd.func32, Tryd.ntmps32
        go_wp2_with (first
          | (have tok := HG2; go_at_call 34; go_must ((with_reducible refine (HA1.out _ HG2.out.sc).mono ?_); rintro e w' ⟨rfl, rfl⟩))
          | (go_at_call 34; go_must ((with_reducible refine HAT.out.mono ?_); rintro e w' ⟨rfl, rfl⟩))
          | (go_at_call 70; go_must ((with_reducible refine HG.out.mono ?_); intro e w1 hq; obtain ⟨A, c, rfl, hla, hfar, hs, hg, hty⟩ := hq; have HG1 := Lib.hid (HST.out w1 A c hs hg hty hfar); have c0 := HG1.out.box.cell 0; have c1 := HG1.out.box.cell 1; have c2 := HG1.out.box.cell 2; have c3 := HG1.out.box.cell 3; simp only [List.getElem?_toArray, List.getElem?_cons_zero, List.getElem?_cons_succ] at c0 c1 c2 c3; clear hla hfar hs hg hty))
          | (go_at_call 27; go_must ((with_reducible refine (HCR.out _ _ _ HG1.out.tb.tabs).mono ?_); rintro e w2 ⟨rfl, hb2⟩; have HG2 := Lib.hid (HG1.out.below hb2); clear hb2))
          | (go_at_call 80; go_must ((with_reducible refine (unlessT _ _ _).mono ?_); rintro e w' ⟨rfl, rfl⟩))
          | (go_at_call 81; go_must ((with_reducible refine (HB.out _ HG2.out.sc).mono ?_); rintro e w3 ⟨rfl, hg⟩; have HGE := Lib.hid hg; clear hg)))
        exact ⟨rfl, rfl, gb_trans HG2.out.gr HGE.out⟩
      | ok d k2 =>
        rw [Res.bind_ok]
        have HB := Lib.hid (fun W (h : Sc W p l k1) => show Calls Tryd.prog 81 #[.pointer (some ⟨p, 0, none⟩)] W (Did encB p l W (.ok d k2)) from by have := hB W h; rw [hb] at this; exact this)
        clear hB hb HZ
        by_cases hd : d = 11
        · rw [if_pos hd]
          show Calls _ _ _ _ (Gets p l i k2 w)
          have dd : ((d.toNat : Int) == 11) = true := by rw [hd]; rfl
          clear hd
          go_enter Tryd.func32, Tryd.ntmps32
          go_wp2_with (first
            | (have tok := HG2; go_at_call 34; go_must ((with_reducible refine (HA1.out _ HG2.out.sc).mono ?_); rintro e w' ⟨rfl, rfl⟩))
            | (go_at_call 34; go_must ((with_reducible refine HAT.out.mono ?_); rintro e w' ⟨rfl, rfl⟩))
            | (go_at_call 70; go_must ((with_reducible refine HG.out.mono ?_); intro e w1 hq; obtain ⟨A, c, rfl, hla, hfar, hs, hg, hty⟩ := hq; have HG1 := Lib.hid (HST.out w1 A c hs hg hty hfar); have c0 := HG1.out.box.cell 0; have c1 := HG1.out.box.cell 1; have c2 := HG1.out.box.cell 2; have c3 := HG1.out.box.cell 3; have hh := HG1.out.h2; have n1 : ¬ w1.heap.size = w.heap.size := (by omega); have n2 : ¬ w.heap.size = w1.heap.size := (by omega); simp only [List.getElem?_toArray, List.getElem?_cons_zero, List.getElem?_cons_succ] at c0 c1 c2 c3; clear hla hfar hs hg hty hh))
            | (go_at_call 27; go_must ((with_reducible refine (HCR.out _ _ _ HG1.out.tb.tabs).mono ?_); rintro e w2 ⟨rfl, hb2⟩; have HG2 := Lib.hid (HG1.out.below hb2); clear hb2 c0 c1 c2 c3))
            | (go_at_call 80; go_must ((with_reducible refine (unlessT _ _ _).mono ?_); rintro e w' ⟨rfl, rfl⟩))
            | (go_at_call 81; go_must ((with_reducible refine (HB.out _ HG2.out.sc).mono ?_); rintro e w3 ⟨rfl, hs, hg⟩; have HG3 := Lib.hid (HG2.out.call hs hg); have c0 := HG3.out.box.cell 0; have c1 := HG3.out.box.cell 1; have c2 := HG3.out.box.cell 2; have c3 := HG3.out.box.cell 3; have r0 := HG3.out.res.cell 0; have r1 := HG3.out.res.cell 1; have r2 := HG3.out.res.cell 2; have r3 := HG3.out.res.cell 3; have z0 := HG3.out.res.frozen 0; have z1 := HG3.out.res.frozen 1; have z2 := HG3.out.res.frozen 2; have z3 := HG3.out.res.frozen 3; simp only [List.getElem?_toArray, List.getElem?_cons_zero, List.getElem?_cons_succ] at c0 c1 c2 c3 r0 r1 r2 r3; clear hs hg)))
          obtain ⟨q4, hf⟩ := HG3.out.fin _ rfl
          have q0 := q4.cell 0
          have q1 := q4.cell 1
          have q2 := q4.cell 2
          have q3 := q4.cell 3
          simp only [List.getElem?_toArray, List.getElem?_cons_zero, List.getElem?_cons_succ] at q0 q1 q2 q3
          exact bodyPost_ret (v := insV i A c) (by simp [results, Tryd.results32, go_sem, q0, q1, q2, q3]) rfl hf
        · rw [if_neg hd]
          show Calls _ _ _ _ (fun e w' => e = .panicked (stopP 12 k1) ∧ w.grownBy w' (some p))
          have dd : ((d.toNat : Int) == 11) = false := by
            have : d.toNat ≠ 11 := fun e => hd (UInt8.toNat_inj.1 (by rw [e]; rfl))
            simp; omega
          clear hd
          go_enter Tryd.func32, Tryd.ntmps32
          go_wp2_with (first
            | (have tok := HG2; go_at_call 34; go_must ((with_reducible refine (HA1.out _ HG2.out.sc).mono ?_); rintro e w' ⟨rfl, rfl⟩))
            | (go_at_call 34; go_must ((with_reducible refine HAT.out.mono ?_); rintro e w' ⟨rfl, rfl⟩))
            | (go_at_call 70; go_must ((with_reducible refine HG.out.mono ?_); intro e w1 hq; obtain ⟨A, c, rfl, hla, hfar, hs, hg, hty⟩ := hq; have HG1 := Lib.hid (HST.out w1 A c hs hg hty hfar); have c0 := HG1.out.box.cell 0; have c1 := HG1.out.box.cell 1; have c2 := HG1.out.box.cell 2; have c3 := HG1.out.box.cell 3; simp only [List.getElem?_toArray, List.getElem?_cons_zero, List.getElem?_cons_succ] at c0 c1 c2 c3; clear hla hfar hs hg hty))
            | (go_at_call 27; go_must ((with_reducible refine (HCR.out _ _ _ HG1.out.tb.tabs).mono ?_); rintro e w2 ⟨rfl, hb2⟩; have HG2 := Lib.hid (HG1.out.below hb2); clear hb2))
            | (have tok := HG3; go_at_call 80; go_must ((with_reducible refine (unlessF _ _ _).mono ?_); rintro e w' ⟨rfl, rfl⟩))
            | (go_at_call 80; go_must ((with_reducible refine (unlessT _ _ _).mono ?_); rintro e w' ⟨rfl, rfl⟩))
            | (go_at_call 81; go_must ((with_reducible refine (HB.out _ HG2.out.sc).mono ?_); rintro e w3 ⟨rfl, hs, hg⟩; have HG3 := Lib.hid (HG2.out.call hs hg); clear hs hg)))
          exact ⟨rfl, rfl, HG3.out.gr⟩
    · rw [if_neg h0]
      show Calls _ _ _ _ (fun e w' => e = .panicked (stopP z k) ∧ w.grownBy w' (some p))
      have dz : (z == 0) = false := by simpa using h0
      clear h0 HZ
      go_enter Tryd.func32, Tryd.ntmps32
      go_wp2_with (first
        | (go_at_call 34; go_must ((with_reducible refine HAT.out.mono ?_); rintro e w' ⟨rfl, rfl⟩))
        | (go_at_call 70; go_must ((with_reducible refine HG.out.mono ?_); intro e w1 hq; obtain ⟨A, c, rfl, hla, hfar, hs, hg, hty⟩ := hq; have HG1 := Lib.hid (HST.out w1 A c hs hg hty hfar); have c0 := HG1.out.box.cell 0; have c1 := HG1.out.box.cell 1; have c2 := HG1.out.box.cell 2; have c3 := HG1.out.box.cell 3; simp only [List.getElem?_toArray, List.getElem?_cons_zero, List.getElem?_cons_succ] at c0 c1 c2 c3; clear hla hfar hs hg hty))
        | (go_at_call 27; go_must ((with_reducible refine (HCR.out _ _ _ HG1.out.tb.tabs).mono ?_); rintro e w2 ⟨rfl, hb2⟩; have HG2 := Lib.hid (HG1.out.below hb2); clear hb2))
        | (go_at_call 80; go_must ((with_reducible refine (unlessF _ _ _).mono ?_); rintro e w' ⟨rfl, rfl⟩)))
      exact ⟨rfl, rfl, HG2.out.gr⟩
end Go.Proofs.YtebgmfjgapmpfaaDoor
