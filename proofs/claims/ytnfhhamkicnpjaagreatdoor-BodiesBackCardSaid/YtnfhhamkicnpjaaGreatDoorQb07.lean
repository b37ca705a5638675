/- bodies.whole, Get, of bytes that were written. -/
import Derived.Test.YtnfhhamkicnpjaaGreatDoorQb06
import Derived.Deep.LoopGhost
namespace Go.Proofs.YtnfhhamkicnpjaaGreatDoor
open Go.RowKit
set_option linter.unusedVariables false
set_option maxRecDepth 100000

/-- The numbers are what their kinds hold; neither instructions nor groups nor labels are many. -/
structure BdOk (x : Bd) : Prop where
  ok : ∀ i ∈ x.b, i.Ok ∧ i.l.length ≤ 50
  h50 : x.ls.length ≤ 50
  h60 : x.b.length ≤ 60
theorem BdOk.ok100 {x : Bd} (h : BdOk x) : ∀ i ∈ x.b, i.Ok ∧ i.l.length ≤ 100 := fun i hi => ⟨(h.ok i hi).1, by have := (h.ok i hi).2; omega⟩
theorem putL_len50 {i : I} (h : i.Ok) (hl : i.l.length ≤ 50) : (putL i).length ≤ 600 := by
  obtain ⟨a0, a1, b0, b1, hl0⟩ := h
  have k1 := lebL_len i.a (by omega)
  have k2 := lebL_len i.b (by omega)
  have k3 := lebL_len (i.l.length : Int) (by omega)
  have k4 := labsL_len i.l hl0
  have k5 := sebL_len (s32 i.a) (by unfold s32; omega) (by unfold s32; omega)
  have k6 := sebL_len (s64 i.a) (by unfold s64; omega) (by unfold s64; omega)
  have key : (immL i).length ≤ 550 := by
    unfold immL immB labL
    repeat' split
    all_goals (try simp only [List.length_append, List.length_cons, List.length_nil])
    all_goals omega
  unfold putL
  rw [List.length_cons]
  omega
theorem bodyL_len50 : ∀ l : List I, (∀ i ∈ l, i.Ok ∧ i.l.length ≤ 50) → (bodyL l).length ≤ l.length * 600
  | [], _ => by simp [bodyL]
  | i :: r, h => by
    have h1 := bodyL_len50 r (fun j hj => h j (List.mem_cons_of_mem _ hj))
    have h2 := putL_len50 (h i (by simp)).1 (h i (by simp)).2
    unfold bodyL at h1 ⊢
    rw [List.flatMap_cons, List.length_append, List.length_cons]
    omega
theorem codeL_len {x : Bd} (h : BdOk x) : (codeL x).length ≤ 36600 := by
  have h1 := lebL_len (x.ls.length : Int) (by have := h.h50; omega)
  have h2 := losL_len x.ls
  have h3 := bodyL_len50 x.b h.ok
  have h4 := h.h50
  have h5 := h.h60
  have hb : (bputL x).length ≤ 36570 := by unfold bputL; rw [List.length_append, List.length_append]; omega
  have h6 := lebL_len ((bputL x).length : Int) (by omega)
  unfold codeL
  rw [List.length_append]
  omega
theorem brZ_zero {x : Bd} (h : brZ x = 0) : (∃ q : Nat, locGo 0 x.ls = (q : Int)) ∧ tyGo x.ls = 0 ∧ shapeGo [] (opsOf x.b) = true ∧ ∀ i ∈ x.b, rightZ i = 0 := by
  have hb : bshZ x = 0 := by
    unfold brZ at h
    by_cases e : bshZ x = 0
    · exact e
    · rw [if_pos e] at h; exact absurd h e
  have hc := brZ_code hb
  rw [h] at hc
  unfold bshZ at hb
  by_cases h1 : locGo 0 x.ls < 0
  · rw [if_pos h1] at hb; omega
  · rw [if_neg h1] at hb
    by_cases h2 : tyGo x.ls = 0
    · rw [if_neg (by omega)] at hb
      have h3 : shapeGo [] (opsOf x.b) = true := by
        unfold shapeZ at hb
        by_cases e : shapeGo [] (opsOf x.b) = true
        · exact e
        · rw [if_neg e] at hb; omega
      refine ⟨⟨(locGo 0 x.ls).toNat, by omega⟩, h2, h3, errZ_all ?_⟩
      unfold codeZ at hc
      rw [if_pos hb] at hc
      omega
    · rw [if_pos h2] at hb; exact absurd hb h2
/-- What reading a body leaves behind. -/
def GotBd (p : Nat) (l : List UInt8) (x : Bd) (k : Nat) (w : World) (e : Ending) (w' : World) : Prop :=
  ∃ s : SlotBd, s.1 = x ∧ e = .returned (cV s) ∧ HasBd w' w.heap.size s ∧ Sc w' p l k ∧ w.grownBy w' (some p)
set_option maxHeartbeats 4000000 in
theorem whole_ok {w : World} {p : Nat} {x : Bd} (h : Sc w p (bputL x) 0) (hT : TbP p w) (hr : brZ x = 0) (ho : BdOk x) :
    Calls Tryz.prog 64 #[.pointer (some ⟨p, 0, none⟩)] w (GotBd p (bputL x) x (bputL x).length w) := by
  have hp := h.lt
  have h50 := ho.h50
  have h60 := ho.h60
  obtain ⟨⟨q, f1⟩, f2, f3, f4⟩ := brZ_zero hr
  have hd0 : (bputL x).drop 0 = (lebL x.ls.length ++ losL x.ls) ++ (bodyL x.b ++ []) := by rw [List.append_nil]; rfl
  have hlo := getLocals_ok (h.alloc (.cells bdZ 55)) (by omega) f2 hd0
  have hd1 := drop_past hd0
  have hk : 0 + (lebL (x.ls.length : Int) ++ losL x.ls).length + (bodyL x.b).length = (bputL x).length := by unfold bputL; simp only [List.length_append]; omega
  obtain ⟨k1, hk1⟩ : ∃ k1, k1 = 0 + (lebL (x.ls.length : Int) ++ losL x.ls).length := ⟨_, rfl⟩
  rw [← hk1] at hlo hd1 hk
  have HLo := Lib.hid hlo
  have HCn := Lib.hid (fun W A c (hl : Los W A x.ls) => show Calls Tryz.prog 54 #[.slice A x.ls.length c] W fun e w' => e = .returned (.tuple #[.int .i64 q, .int .i64 0]) ∧ Below W.heap.size W w' from by have := cnt_any (c := c) hl (by omega); rw [(cnt_yes f1).1, (cnt_yes f1).2] at this; exact this)
  have HGB := Lib.hid (fun W (hs : Sc W p (bputL x) k1) (ht : TbP p W) => show Calls Tryz.prog 98 #[.pointer (some ⟨p, 0, none⟩)] W (GotB p (bputL x) x.b (bputL x).length W) from by have := getBody_ok (r := []) (fun i hi => ⟨(ho.ok i hi).1, f4 i hi⟩) f3 (by omega) hs ht hd1; rw [hk] at this; exact this)
  have HEn := Lib.hid (fun W (hs : Sc W p (bputL x) (bputL x).length) => end_ok hs)
  have HW0 := Lib.hid (Whole.made w 55 bdZ)
  have HT0 := Lib.hid (hT.below (below_box w (.cells bdZ 55)) (Nat.le_of_lt hp))
  have hz0 := size_box w (.cells bdZ 55)
  obtain ⟨L, hL⟩ : ∃ L, L = bputL x := ⟨_, rfl⟩
  rw [← hL] at HLo HGB HEn ⊢
  clear h hT hr ho f1 f2 f3 f4 hd0 hlo hd1 hk hk1 hL
  go_enter Tryz.func64, Tryz.ntmps64
  go_wp2_with (first
    | (go_at_call 97; go_must ((with_reducible refine HLo.out.mono ?_); intro e w1 hq; obtain ⟨A, c, rfl, hl, hs, hg⟩ := hq; have HR1 := Lib.hid (HW0.out.grown hg (by simp only [ne_eq, Option.some.injEq]; omega)); have HL1 := Lib.hid hl; have HS1 := Lib.hid hs; have HG1 := Lib.hid (gb_trans (gb_alloc (gb_refl w _) _) hg); have HT1 := Lib.hid (HT0.out.self hg); have hz1 := hg.size; clear hl hs hg))
    | (go_at_call 54; go_must ((with_reducible refine (HCn.out _ _ _ HL1.out.1.los).mono ?_); rintro e w2 ⟨rfl, hb⟩; have HR2 := Lib.hid (HR1.out.below hb); have HL2 := Lib.hid (HL1.out.1.on hb); have HS2 := Lib.hid (HS1.out.below hb); have HG2 := Lib.hid (gb_trans HG1.out (gb_of_below (some p) hb)); have HT2 := Lib.hid (HT1.out.grown (gb_of_below none hb) (fun g e => by cases e)); have hz2 := hb.size; clear hb))
    | (go_at_call 95; go_must ((with_reducible refine (unlessT _ _ _).mono ?_); rintro e w' ⟨rfl, rfl⟩))
    | (go_at_call 98; go_must ((with_reducible refine (HGB.out _ HS2.out HT2.out).mono ?_); intro e w3 hq; obtain ⟨B, d, rows, rfl, hrow, hm, hs, hg⟩ := hq; have HR3 := Lib.hid (HR2.out.grown hg (by simp only [ne_eq, Option.some.injEq]; omega)); have HL3 := Lib.hid (HL2.out.keep hg (fun a ha => by have := HL1.out.2 a ha; simp only [ne_eq, Option.some.injEq]; omega)); have HRW := Lib.hid hrow; have HM := Lib.hid hm; have HS3 := Lib.hid hs; have HG3 := Lib.hid (gb_trans HG2.out hg); have hz3 := hg.size; clear hrow hm hs hg))
    | (go_at_call 77; go_must ((with_reducible refine (HEn.out _ HS3.out).mono ?_); rintro e w4 ⟨rfl, m, hw⟩; have hb : Below w3.heap.size w3 w4 := (by rw [hw]; exact below_drewN (Below.refl _ _) m); have HR4 := Lib.hid (HR3.out.below hb); have HL4 := Lib.hid (HL3.out.on hb); have HRW4 := Lib.hid (HRW.out.later hb); have HS4 := Lib.hid (HS3.out.below hb); have HG4 := Lib.hid (gb_trans HG3.out (gb_of_below (some p) hb)); have k0 := HR4.out.cell 0; have k1 := HR4.out.cell 1; have f0 := HR4.out.frozen 0; have f1 := HR4.out.frozen 1; simp only [List.getElem?_toArray, List.getElem?_cons_zero, List.getElem?_cons_succ] at k0 k1; clear hb hw)))
  obtain ⟨h1, h2⟩ := put2 (u0 := .slice A x.ls.length c) (u1 := .slice B x.b.length d) HR4.out
  have q0 := h1.cell 0
  have q1 := h1.cell 1
  simp only [List.getElem?_toArray, List.getElem?_cons_zero, List.getElem?_cons_succ] at q0 q1
  have hhas : HasBd w4 (w.heap.size + 1) (x, (A, c), (B, d)) := ⟨⟨HL4.out, fun a ha => by have := HL1.out.2 a ha; omega⟩, rows, HRW4.out.mono (by omega), HM.out⟩
  exact bodyPost_ret (v := bdV x A c B d) (by simp [results, Tryz.results64, go_sem, q0, q1]) rfl ⟨(x, (A, c), (B, d)), rfl, rfl, (hhas.past h2 (Nat.lt_succ_self _)).mono (Nat.le_succ _), HS4.out.grown h2 (by simp only [ne_eq, Option.some.injEq]; omega) (fun g e => by injection e with e; omega), gb_before HG4.out h2 (fun g e => .inr (by injection e with e; omega))⟩
theorem cfGB (cap : Array Value) (w : World) : (callFunc 63 cap).run Tryz.prog w = .ok (.enter 63 cap) w := by kernel_rfl
/-- What Get's closure leaves behind. -/
def GClos (q X : Nat) (x : Bd) (w : World) (w' : World) : Prop :=
  ∃ s : SlotBd, s.1 = x ∧ HasBd w' w.heap.size s ∧ Whole w' X 55 (cC s) ∧ ∃ w1, w.grownBy w1 (some q) ∧ w1.grownBy w' (some X)
set_option maxHeartbeats 2000000 in
theorem gclos_ok {w : World} {q P X : Nat} {x : Bd} (hP : Whole w P 24 #[.pointer (some ⟨q, 0, none⟩)]) (hX : Whole w X 55 bdZ) (h : Sc w q (bputL x) 0) (hT : TbP q w) (hqX : q < X) (hr : brZ x = 0) (ho : BdOk x) :
    Calls Tryz.prog 63 #[.pointer (some ⟨P, 0, none⟩), .pointer (some ⟨X, 0, none⟩)] w fun e w' => e = .returned (.tuple #[]) ∧ GClos q X x w w' := by
  have c0 := hP.cell 0
  simp only [List.getElem?_toArray, List.getElem?_cons_zero] at c0
  have HWh := Lib.hid (whole_ok h hT hr ho)
  have HX := Lib.hid hX
  have hlt := hX.lt
  clear hP hX h hT hr ho
  go_enter Tryz.func63, Tryz.ntmps63
  go_wp2_with (go_at_call 64; go_must ((with_reducible refine HWh.out.mono ?_); intro e w1 hq; obtain ⟨⟨y, ⟨A, c⟩, ⟨B, d⟩⟩, hyx, rfl, hh, hs, hg⟩ := hq; obtain rfl : y = x := hyx; have HH := Lib.hid hh; have HG := Lib.hid hg; have HX1 := Lib.hid (HX.out.grown hg (by simp only [ne_eq, Option.some.injEq]; omega)); have k0 := HX1.out.cell 0; have k1 := HX1.out.cell 1; have f0 := HX1.out.frozen 0; have f1 := HX1.out.frozen 1; simp only [List.getElem?_toArray, List.getElem?_cons_zero, List.getElem?_cons_succ] at k0 k1; clear hh hs hg))
  obtain ⟨h1, h2⟩ := put2 (u0 := .slice A y.ls.length c) (u1 := .slice B y.b.length d) HX1.out
  go_end0
  exact ⟨rfl, (y, (A, c), (B, d)), rfl, HH.out.past h2 hlt, h1, _, HG.out, h2⟩
/-- What holds once Within has ended. -/
structure GEnd (w : World) (p R X St : Nat) (l : List UInt8) (k : Nat) (s : SlotBd) (W : World) : Prop where
  has : HasBd W (St + 1) s
  x : Whole W X 55 (cC s)
  st : Whole W St 32 #[.int .i64 0, .int .i64 0]
  sc : Sc W p l k
  r : Whole W R 55 bdZ
  g : w.grownBy W (some p)
set_option maxHeartbeats 4000000 in
theorem get_bd {w : World} {p : Nat} {l r : List UInt8} {k : Nat} {x : Bd} (h : Sc w p l k) (hT : TbP p w) (hr : brZ x = 0) (ho : BdOk x) (hl : l.length ≤ 1000000) (hd : l.drop k = codeL x ++ r) :
    Calls Tryz.prog 27 #[.pointer (some ⟨p, 0, none⟩)] w (GotBd p l x (k + (codeL x).length) w) := by
  have hp := h.lt
  have hcl := codeL_len ho
  have hbl : (codeL x).length = (lebL ((bputL x).length : Int)).length + (bputL x).length := by unfold codeL; rw [List.length_append]
  have hd1 : l.drop k = lebL ((bputL x).length : Int) ++ (bputL x ++ r) := by rw [hd]; unfold codeL; rw [List.append_assoc]
  have hi := indexR_at hd1 (by omega) (by omega)
  have hd2 := drop_past hd1
  obtain ⟨k1, hk1⟩ : ∃ k1, k1 = k + (lebL ((bputL x).length : Int)).length := ⟨_, rfl⟩
  rw [← hk1] at hi hd2
  have hkk : k + (codeL x).length = k1 + (bputL x).length := by omega
  have hm : k1 + (bputL x).length ≤ l.length := by
    have h1 := congrArg List.length hd2
    rw [List.length_drop, List.length_append] at h1
    have h2 : k1 ≤ l.length := by
      have h3 := congrArg List.length hd1
      rw [List.length_drop, List.length_append, List.length_append] at h3
      have h4 := h.le.1
      omega
    omega
  have hpt : (l.drop k1).take (bputL x).length = bputL x := by rw [hd2, List.take_left]
  have hPa := part_w (h.alloc (.cells bdZ 55)) hi hm
  unfold Parted at hPa
  rw [hpt] at hPa
  have HPa := Lib.hid hPa
  have HGC := Lib.hid (fun W q P X (a1 : Whole W P 24 #[.pointer (some ⟨q, 0, none⟩)]) (a2 : Whole W X 55 bdZ) (a3 : Sc W q (bputL x) 0) (a4 : TbP q W) (a5 : q < X) => gclos_ok a1 a2 a3 a4 a5 hr ho)
  have HW0 := Lib.hid (Whole.made w 55 bdZ)
  have HT0 := Lib.hid (hT.below (below_box w (.cells bdZ 55)) (Nat.le_of_lt hp))
  have hz0 := size_box w (.cells bdZ 55)
  rw [hkk]
  have hk1l : k1 ≤ 1000000 := by omega
  clear h hT hr ho hd hcl hbl hd1 hi hd2 hk1 hkk hm hpt hPa
  obtain ⟨kn, hkn⟩ : ∃ kn, kn = k1 + (bputL x).length := ⟨_, rfl⟩
  rw [← hkn] at HPa ⊢
  clear hkn hl
  go_enter Tryz.func27, Tryz.ntmps27
  go_wp2_with (go_at_call 61; go_must ((with_reducible refine HPa.out.mono ?_); intro e w2 hq; obtain ⟨q, rfl, hq, hs1, hs2, hg⟩ := hq; have HR2 := Lib.hid (HW0.out.grown hg (by simp only [ne_eq, Option.some.injEq]; omega)); have HQ := Lib.hid hq; have HS1 := Lib.hid hs1; have HS2 := Lib.hid hs2; have HG2 := Lib.hid (gb_trans (gb_alloc (gb_refl w _) _) hg); have HT2 := Lib.hid (HT0.out.self hg); clear hq hs1 hs2 hg))
  have hqz : q < w2.heap.size := HS1.out.lt
  have hqw : w.heap.size < q := by have := HQ.out; omega
  have hb1 := below_box w2 (.cells #[.pointer (some ⟨q, 0, none⟩)] 24)
  have hs3 := size_box w2 (.cells #[.pointer (some ⟨q, 0, none⟩)] 24)
  have HPc := Lib.hid ((Whole.made w2 24 #[.pointer (some ⟨q, 0, none⟩)]).alloc (.cells bdZ 55))
  have hX := made_2 w2 (.cells #[.pointer (some ⟨q, 0, none⟩)] 24) 55 bdZ
  have hs4 := size_box (w2.alloc (.cells #[.pointer (some ⟨q, 0, none⟩)] 24)) (.cells bdZ 55)
  have hb2 : Below w2.heap.size w2 ((w2.alloc (.cells #[.pointer (some ⟨q, 0, none⟩)] 24)).alloc (.cells bdZ 55)) := hb1.alloc (by omega) _
  have HX := Lib.hid hX
  have HB2 := Lib.hid hb2
  clear hb1 hX hb2
  generalize (w2.alloc (.cells #[.pointer (some ⟨q, 0, none⟩)] 24)).alloc (.cells bdZ 55) = W at *
  have hWz : W.heap.size = w2.heap.size + 2 := by omega
  have hb5 := below_box W (.cells #[.int .i64 0, .int .i64 0] 32)
  have hs5 := size_box W (.cells #[.int .i64 0, .int .i64 0] 32)
  have hSt := Whole.made W 32 #[.int .i64 0, .int .i64 0]
  have hbb := HB2.out.trans (hb5.mono HB2.out.size)
  have hT5 : TbP q (W.alloc (.cells #[.int .i64 0, .int .i64 0] 32)) := by
    obtain ⟨W0, t1, t2, t3⟩ := HT2.out.grown (gb_of_below none hbb) (fun g e => by cases e)
    exact ⟨W0, t1, by omega, t3⟩
  have hcl := HGC.out _ q w2.heap.size (w2.heap.size + 1) (HPc.out.below hb5) (HX.out.below hb5) (HS1.out.below hbb) hT5 (by omega)
  have hwi := within_any _ _ 0 0 k1 W (fun w1 => ∃ s : SlotBd, s.1 = x ∧ GEnd w p w.heap.size (w2.heap.size + 1) W.heap.size l kn s w1) (cfGB _) (hcl.mono (by
    rintro e w1 ⟨rfl, s, hsx, hh, hx1, wa, g1, g2⟩
    refine ⟨.inl ⟨rfl, rfl, rfl⟩, s, hsx, ⟨by rw [hs5] at hh; exact hh, hx1, (hSt.grown g1 (by simp only [ne_eq, Option.some.injEq]; omega)).grown g2 (by simp only [ne_eq, Option.some.injEq]; omega), ((HS2.out.below hbb).grown g1 (by simp only [ne_eq, Option.some.injEq]; omega) (fun g e => by injection e with e; omega)).grown g2 (by simp only [ne_eq, Option.some.injEq]; omega) (fun g e => by injection e with e; omega), ((HR2.out.below hbb).grown g1 (by simp only [ne_eq, Option.some.injEq]; omega)).grown g2 (by simp only [ne_eq, Option.some.injEq]; omega), ?_⟩⟩
    exact gb_before (gb_before (gb_trans HG2.out (gb_of_below (some p) hbb)) g1 (fun g e => .inr (by injection e with e; omega))) g2 (fun g e => .inr (by injection e with e; omega)))) (fun _ ⟨_, _, h⟩ => h.st) (by omega) (by omega) (by omega) (by omega)
  refine hwi.mono ?_
  rintro e w3 ⟨he, w1, ⟨⟨y, ⟨A, c⟩, ⟨B, d⟩⟩, hyx, hE⟩, hg⟩
  obtain rfl : y = x := hyx
  rcases he with ⟨_, _, rfl⟩ | ⟨h0, _⟩
  · have HX3 := hE.x.grown hg (by simp only [ne_eq, Option.some.injEq]; omega)
    have HR3 := hE.r.grown hg (by simp only [ne_eq, Option.some.injEq]; omega)
    have HH3 := Lib.hid (hE.has.past hg (Nat.lt_succ_self _))
    have HS3 := Lib.hid (hE.sc.grown hg (by simp only [ne_eq, Option.some.injEq]; omega) (fun g e => by injection e with e; omega))
    have HG3 := Lib.hid (gb_before hE.g hg (fun g e => .inr (by injection e with e; omega)))
    have x0 := HX3.cell 0
    have x1 := HX3.cell 1
    have r0 := HR3.cell 0
    have r1 := HR3.cell 1
    have f0 := HR3.frozen 0
    have f1 := HR3.frozen 1
    simp only [List.getElem?_toArray, List.getElem?_cons_zero, List.getElem?_cons_succ] at x0 x1 r0 r1
    obtain ⟨h1, h2⟩ := put2 (u0 := .slice A y.ls.length c) (u1 := .slice B y.b.length d) HR3
    have q0 := h1.cell 0
    have q1 := h1.cell 1
    simp only [List.getElem?_toArray, List.getElem?_cons_zero, List.getElem?_cons_succ] at q0 q1
    have H1 := Lib.hid h2
    clear hE hg hwi hcl hT5 hSt HX3 HR3 h1 h2 HGC hbb hb5
    go_wp2
    exact bodyPost_ret (v := bdV y A c B d) (by simp [results, Tryz.results27, go_sem, q0, q1]) rfl ⟨(y, (A, c), (B, d)), rfl, rfl, (HH3.out.past H1.out (by omega)).mono (by omega), HS3.out.grown H1.out (by simp only [ne_eq, Option.some.injEq]; omega) (fun g e => by injection e with e; omega), gb_before HG3.out H1.out (fun g e => .inr (by injection e with e; omega))⟩
  · exact absurd rfl h0
end Go.Proofs.YtnfhhamkicnpjaaGreatDoor

/- bodies.PutAll. -/
namespace Go.Proofs.YtnfhhamkicnpjaaGreatDoor
open Go.RowKit
set_option linter.unusedVariables false
set_option maxRecDepth 100000

/-- May it be? Its bytes. -/
def rBd (x : SlotBd) : Int := brZ x.1
noncomputable def cputB (x : SlotBd) : List UInt8 := codeL x.1
def PuttedC (x : SlotBd) (w : World) (e : Ending) (w' : World) : Prop := ∃ v, e = .returned (.tuple #[v, .int .i64 (rBd x)]) ∧ Row w' w.heap.size v (if rBd x = 0 then cputB x else []) ∧ Below w.heap.size w w'
def OkBds (l : List SlotBd) : Prop := ∀ x ∈ l, BdOk x.1
theorem put_c (x : SlotBd) (w : World) (hT : Tabs w) (h : BdOk x.1) (hL : Los w x.2.1.1 x.1.ls) (hI : Ins w x.2.2.1 x.1.b) : Calls Tryz.prog 22 #[cV x] w (PuttedC x w) := put_bd hT hL hI h.h50 h.h60 h.ok100
/-- The first error. -/
def errBd : List SlotBd → Int
  | [] => 0
  | x :: r => if rBd x ≠ 0 then rBd x else errBd r
theorem errBd_app : ∀ a b : List SlotBd, errBd (a ++ b) = if errBd a ≠ 0 then errBd a else errBd b
  | [], b => by simp [errBd]
  | x :: a, b => by
    simp only [List.cons_append, errBd]
    by_cases h : rBd x = 0
    · simp only [h, ne_eq, not_true_eq_false, if_false, errBd_app a b]
    · simp [h]
theorem errBd_snoc {l : List SlotBd} {k : Nat} {x : SlotBd} (h : l[k]? = some x) : errBd (l.take (k + 1)) = if errBd (l.take k) ≠ 0 then errBd (l.take k) else rBd x := by
  rw [List.take_add_one, h]
  show errBd (l.take k ++ [x]) = _
  rw [errBd_app]
  by_cases e : rBd x = 0 <;> simp [errBd, e]
theorem errBd_bad {l : List SlotBd} {k : Nat} (h : errBd (l.take k) ≠ 0) : errBd l = errBd (l.take k) := by
  conv => lhs; rw [← List.take_append_drop k l]
  rw [errBd_app, if_pos h]
theorem errBd_mem : ∀ {l : List SlotBd}, errBd l = 0 → ∀ x ∈ l, rBd x = 0
  | [], _, x, hx => by cases hx
  | y :: l, h, x, hx => by
    simp only [errBd] at h
    by_cases e : rBd y = 0
    · simp only [e, ne_eq, not_true_eq_false, if_false] at h
      rcases List.mem_cons.1 hx with rfl | hx
      · exact e
      · exact errBd_mem h x hx
    · simp [e] at h
/-- Many bodies' bytes. -/
noncomputable def bdsL (l : List SlotBd) : List UInt8 := l.flatMap cputB
theorem bdsL_snoc {l : List SlotBd} {k : Nat} {x : SlotBd} (h : l[k]? = some x) : bdsL (l.take (k + 1)) = bdsL (l.take k) ++ cputB x := by
  unfold bdsL
  rw [List.take_add_one, h, List.flatMap_append]
  simp
theorem bdsL_len : ∀ {l : List SlotBd}, OkBds l → (bdsL l).length ≤ l.length * 36600
  | [], _ => by simp [bdsL]
  | x :: r, h => by
    have h1 := bdsL_len (l := r) (fun y hy => h y (List.mem_cons_of_mem _ hy))
    have h3 : (cputB x).length ≤ 36600 := codeL_len (h x (by simp))
    unfold bdsL at h1 ⊢
    rw [List.flatMap_cons, List.length_append, List.length_cons]
    omega
noncomputable def allBd (l : List SlotBd) : List UInt8 := lebL l.length ++ bdsL l
/-- What PutAll hands back. -/
def PuttedAllBd (l : List SlotBd) (w : World) (e : Ending) (w' : World) : Prop := ∃ v, e = .returned (.tuple #[v, .int .i64 (errBd l)]) ∧ Row w' w.heap.size v (if errBd l = 0 then allBd l else []) ∧ Below w.heap.size w w'
theorem cfBdP (a : Array Value) (w : World) : (callFunc 22 a).run Tryz.prog w = .ok (.enter 22 a) w := by kernel_rfl
set_option maxHeartbeats 4000000 in
theorem wputall_bd {w : World} {A : Option Addr} {c : Nat} {l : List SlotBd} (hl : Bds w A l) (hT : Tabs w) (hs : OkBds l) (h20 : l.length ≤ 20) :
    Calls Tryz.prog 67 #[.slice A l.length c, .func (.func 22) #[] #[]] w (PuttedAllBd l w) := by
  have HL := Lib.hid hl
  have HTb := Lib.hid hT
  have HSh := Lib.hid hs
  have hlb := lebL_len (l.length : Int) (by omega)
  have HZ := Lib.hid (fun W => size_w l.length W (by omega))
  obtain ⟨n, hn⟩ : ∃ n, n = l.length := ⟨_, rfl⟩
  obtain ⟨hd, hhd⟩ : ∃ hd, hd = lebL (l.length : Int) := ⟨_, rfl⟩
  rw [← hhd] at HZ hlb
  have HN := Lib.hid hn
  have HE := Lib.hid (show l.take n = l by rw [hn, List.take_length])
  have HAL := Lib.hid (show allBd l = hd ++ bdsL l by rw [hhd]; rfl)
  have HPL := Lib.hid (fun k => show (bdsL (l.take k)).length ≤ 20 * 36600 from by
    have h1 := bdsL_len (l := l.take k) (fun y hy => hs y (List.mem_of_mem_take hy))
    have h2 : (l.take k).length ≤ l.length := by rw [List.length_take]; omega
    omega)
  rw [← hn] at h20 HZ ⊢
  have d10 : decide ((10000 : Int) < (n : Int)) = false := decide_eq_false (by omega)
  have hcf := cfBdP
  clear hl hT hs hn hhd
  go_enter Tryz.func67, Tryz.ntmps67
  go_wp2_with (go_at_call 86; go_must ((with_reducible refine (HZ.out _).mono ?_); intro e w1 h; obtain ⟨v, rfl, hr, hb⟩ := h; have HR := Lib.hid hr; have HB := Lib.hid hb; clear hr hb))
  go_loopw [6, 19] (fun v i wr => ∃ k : Nat, k ≤ n ∧ i = .int .i64 k ∧ errBd (l.take k) = 0 ∧ Row wr w.heap.size v (hd ++ bdsL (l.take k)) ∧ Below w.heap.size w wr) (fun _ i _ => n - (intOf i).toNat)
  case atStart => exact ⟨0, Nat.zero_le _, rfl, rfl, by simpa [bdsL] using HR.out, HB.out⟩
  case round =>
    obtain ⟨k, hk, rfl, he, hr, hb⟩ := hrel
    have hz1 := hb.size
    by_cases hlt : k < n
    · obtain ⟨x, hx⟩ : ∃ x, l[k]? = some x := ⟨_, List.getElem?_eq_getElem (by rw [← HN.out]; exact hlt)⟩
      obtain ⟨b, off, rfl, hbl, m0, m1⟩ := (HL.out.below hb).two hx
      obtain ⟨_, hfl, hfi⟩ := (HL.out.below hb) k x hx
      have hxs := HSh.out x (List.mem_of_getElem? hx)
      have hTk := errBd_snoc hx
      have hPk := bdsL_snoc hx
      have HB2 := Lib.hid (hb.alloc hz1 (.cells (cC x) 55))
      have HR2 := Lib.hid (hr.alloc (.cells (cC x) 55))
      have HP := Lib.hid (put_c x (wr.alloc (.cells (cC x) 55)) (HTb.out.below HB2.out) hxs (hfl.below (below_box wr _)) (hfi.below (below_box wr _)))
      have hzb : wr.heap.size ≤ (wr.alloc (.cells (cC x) 55)).heap.size := (below_box wr _).size
      rw [he] at hTk
      simp only [ne_eq, not_true_eq_false, if_false] at hTk
      unfold PuttedC at HP
      have HTk := Lib.hid hTk
      have HPk := Lib.hid hPk
      by_cases z0 : rBd x = 0
      · rw [if_pos z0, z0] at HP
        have hil : (cputB x).length ≤ 36600 := codeL_len hxs
        have hsz : (hd ++ bdsL (l.take k)).length + (cputB x).length ≤ 1000000 := by
          have hpl := HPL.out k
          rw [List.length_append]
          omega
        have HSZ := Lib.hid hsz
        obtain ⟨y, hy⟩ : ∃ y, y = cputB x := ⟨_, rfl⟩
        rw [← hy] at HP HPk HSZ
        have HZ0 := Lib.hid z0
        clear hTk hPk he hr hb z0 hil hsz hy hxs hfl hfi
        go_wp2_with (first
          | (go_at_call 22; go_must ((with_reducible refine HP.out.mono ?_); intro e w3 h; obtain ⟨v3, rfl, hr3, hb3⟩ := h; obtain ⟨A3, c3, rfl, hp3⟩ := hr3.pc; have HP3 := Lib.hid hp3; have HR3 := Lib.hid (HR2.out.later hb3); have HB3 := Lib.hid (HB2.out.trans (hb3.mono HB2.out.size)); have hz3 := HB3.out.size; clear hr3 hb3 hp3))
          | (at_builtin; (refine row_any rfl _ _ rfl w.heap.size _ (hd ++ bdsL (l.take k)) rfl HR3.out A3 y.length c3 w3.heap.size y rfl rfl HP3.out.lies HP3.out.nil HSZ.out hz3 ?_; intro v4 w4 hr4 hb4; have HR4 := Lib.hid hr4; have HB4 := Lib.hid hb4; clear hr4 hb4)))
        go_roundw
        case rel => exact ⟨k + 1, by omega, by go_num, by rw [HTk.out]; exact HZ0.out, by rw [HPk.out, ← List.append_assoc]; exact HR4.out, HB3.out.trans HB4.out⟩
        case measure => simp [intOf]; omega
      · rw [if_neg z0] at HP
        have hbad := errBd_bad (l := l) (k := k + 1) (by rw [hTk]; exact z0)
        rw [hTk] at hbad
        have HBAD := Lib.hid hbad
        have dz : (rBd x != 0) = true := zb_of (by simpa using z0)
        have HZ0 := Lib.hid (show ¬ errBd l = 0 by rw [hbad]; exact z0)
        clear hTk hPk he hr hb z0 hbad hxs hfl hfi
        generalize rBd x = z at *
        go_wp2_with (go_at_call 22; go_must ((with_reducible refine HP.out.mono ?_); intro e w3 h; obtain ⟨v3, rfl, hr3, hb3⟩ := h; have HB3 := Lib.hid (HB2.out.trans (hb3.mono HB2.out.size)); clear hr3 hb3))
        go_ret2
        exact ⟨_, ret_pair HBAD.out.symm, by rw [if_neg HZ0.out]; exact Row.nil _ _, HB3.out⟩
    · obtain rfl : k = n := by omega
      rw [HE.out] at he
      rw [HE.out] at hr
      have HE2 := Lib.hid he
      have HR2 := Lib.hid hr
      have HB2 := Lib.hid hb
      clear hr hb he
      go_wp2
      go_ret2
      exact ⟨_, ret_pair HE2.out.symm, by rw [if_pos HE2.out, HAL.out]; exact HR2.out, HB2.out⟩
theorem putall_bd {w : World} {A : Option Addr} {c : Nat} {l : List SlotBd} (hl : Bds w A l) (hT : Tabs w) (hs : OkBds l) (h20 : l.length ≤ 20) :
    Calls Tryz.prog 32 #[.slice A l.length c] w (PuttedAllBd l w) := by
  have HP := Lib.hid (wputall_bd (c := c) hl hT hs h20)
  unfold PuttedAllBd at HP
  clear hl hT hs h20
  go_enter Tryz.func32, Tryz.ntmps32
  go_wp2_with (go_at_call 67; go_must ((with_reducible refine HP.out.mono ?_); intro e w1 h; obtain ⟨v, rfl, hr, hb⟩ := h; have HR := Lib.hid hr; have HB := Lib.hid hb; clear hr hb))
  go_ret2
  exact ⟨_, rfl, HR.out, HB.out⟩
end Go.Proofs.YtnfhhamkicnpjaaGreatDoor

/- bodies.GetAll of what PutAll wrote. -/
namespace Go.Proofs.YtnfhhamkicnpjaaGreatDoor
open Go.RowKit
set_option linter.unusedVariables false
set_option maxRecDepth 100000

theorem bdsL_at {l : List SlotBd} {k : Nat} {x : SlotBd} (h : l[k]? = some x) : bdsL l = bdsL (l.take k) ++ (codeL x.1 ++ bdsL (l.drop (k + 1))) := by
  have e1 : l = l.take k ++ x :: l.drop (k + 1) := by
    obtain ⟨hj3, hj4⟩ := List.getElem?_eq_some_iff.1 h
    rw [← hj4, ← List.drop_eq_getElem_cons hj3, List.take_append_drop]
  conv => lhs; rw [e1]
  unfold bdsL
  rw [List.flatMap_append, List.flatMap_cons]
  rfl
/-- What holds at the head of GetAll's loop. -/
structure AInBd (w : World) (p : Nat) (l : List UInt8) (k : Nat) (xs : List SlotBd) (v : Value) (W : World) : Prop where
  sc : Sc W p l k
  g : w.grownBy W (some p)
  r : RowBd W w.heap.size v xs
  tb : TbP p W
section
variable {w W W' : World} {p : Nat} {l : List UInt8} {k k' : Nat} {xs : List SlotBd} {x : SlotBd} {v v' : Value}
theorem AInBd.step (h : AInBd w p l k xs v W) (hp : p < w.heap.size) (hg : W.grownBy W' (some p)) (hs : Sc W' p l k') : AInBd w p l k' xs v W' :=
  ⟨hs, gb_trans h.g hg, h.r.past hg hp, h.tb.self hg⟩
theorem AInBd.alloc (h : AInBd w p l k xs v W) (hp : p < w.heap.size) (o : Obj) : AInBd w p l k xs v (W.alloc o) := h.step hp (gb_alloc (gb_refl _ _) o) (h.sc.alloc o)
theorem AInBd.more (h : AInBd w p l k xs v W) (hp : p < w.heap.size) (hg : W.grownBy W' v.ownBlock) (hr : RowBd W' w.heap.size v' (xs ++ [x])) : AInBd w p l k (xs ++ [x]) v' W' := by
  have hlt := h.r.lt
  exact ⟨h.sc.grown hg (fun e => by have := hlt p e.symm; omega) (fun g e => by have := hlt g e; omega), gb_before h.g hg (fun g e => .inr (hlt g e).1), hr, h.tb.grown hg (fun g e => by have := hlt g e; omega)⟩
end
/-- The list that was read. -/
def GotAllBd (p : Nat) (xs : List Bd) (w : World) (e : Ending) (w' : World) : Prop :=
  ∃ v rows, e = .returned v ∧ RowBd w' w.heap.size v rows ∧ rows.map (·.1) = xs ∧ w.grownBy w' (some p)
theorem cfBdG (a : Array Value) (w : World) : (callFunc 27 a).run Tryz.prog w = .ok (.enter 27 a) w := by kernel_rfl
set_option maxHeartbeats 4000000 in
theorem wgetall_bd {w : World} {p : Nat} {xs : List SlotBd} (h : Sc w p (allBd xs) 0) (hT : TbP p w) (ho : OkBds xs) (h0 : errBd xs = 0) (h20 : xs.length ≤ 20) :
    Calls Tryz.prog 69 #[.pointer (some ⟨p, 0, none⟩), .func (.func 27) #[] #[]] w (GotAllBd p (xs.map (·.1)) w) := by
  have hp := h.lt
  have hc := count_scan h
  have hd : (allBd xs).drop 0 = lebL (xs.length : Int) ++ bdsL xs := rfl
  have h1 := countR_at hd (by omega) (by omega)
  rw [Nat.zero_add] at h1
  have h2 := drop_past hd
  rw [Nat.zero_add] at h2
  rw [h1] at hc
  have hlen : (allBd xs).length = (lebL (xs.length : Int)).length + (bdsL xs).length := by unfold allBd; rw [List.length_append]
  have hbl := bdsL_len ho
  have hlb := lebL_len (xs.length : Int) (by omega)
  have hmax : (allBd xs).length ≤ 1000000 := by omega
  obtain ⟨n, hnn⟩ : ∃ n, n = xs.length := ⟨_, rfl⟩
  obtain ⟨k1, hk1⟩ : ∃ k1, k1 = (lebL (xs.length : Int)).length := ⟨_, rfl⟩
  rw [← hk1] at hc h2 hlen
  rw [← hnn] at hc h20
  have HC := Lib.hid hc
  have HT := Lib.hid hT
  have HD := Lib.hid h2
  have HO := Lib.hid ho
  have HE := Lib.hid (errBd_mem h0)
  have HN := Lib.hid hnn
  have HLE := Lib.hid hlen
  obtain ⟨L, hL⟩ : ∃ L, L = allBd xs := ⟨_, rfl⟩
  rw [← hL] at HC HD HLE hmax
  have hcf := cfBdG
  clear h hT hc hd h1 h2 ho h0 hlen hbl hlb hk1 hL hnn
  go_enter Tryz.func69, Tryz.ntmps69
  go_wp2_with (go_at_call 76; go_must ((with_reducible refine HC.out.mono ?_); rintro e w1 ⟨rfl, hs, hg⟩; have HS := Lib.hid hs; have HG := Lib.hid hg; clear hs hg))
  go_loopw [5, 8] (fun v i wr => ∃ (j : Nat) (rows : List SlotBd), j ≤ n ∧ i = .int .i64 j ∧ rows.map (·.1) = (xs.take j).map (·.1) ∧ AInBd w p L (k1 + (bdsL (xs.take j)).length) rows v wr) (fun _ i _ => n - (intOf i).toNat)
  case atStart => exact ⟨0, [], Nat.zero_le _, rfl, rfl, ⟨by simpa [bdsL] using HS.out, HG.out, RowBd.nil _ _, HT.out.self HG.out⟩⟩
  case round =>
    obtain ⟨j, rows, hj, rfl, hm, ha⟩ := hrel
    by_cases hlt : j < n
    · obtain ⟨x, hx⟩ : ∃ x, xs[j]? = some x := ⟨_, List.getElem?_eq_getElem (by rw [← HN.out]; exact hlt)⟩
      have hdj : L.drop (k1 + (bdsL (xs.take j)).length) = codeL x.1 ++ bdsL (xs.drop (j + 1)) := drop_past (by rw [HD.out]; exact bdsL_at hx)
      have hG := get_bd ha.sc ha.tb (HE.out x (List.mem_of_getElem? hx)) (HO.out x (List.mem_of_getElem? hx)) hmax hdj
      have hk2 : k1 + (bdsL (xs.take j)).length + (codeL x.1).length = k1 + (bdsL (xs.take (j + 1))).length := by
        rw [bdsL_snoc hx, List.length_append]
        show _ = k1 + (_ + (codeL x.1).length)
        omega
      rw [hk2] at hG
      have HGe := Lib.hid hG
      have HA := Lib.hid ha
      have hrl : rows.length = j := by have := congrArg List.length hm; rw [List.length_map, List.length_map, List.length_take, ← HN.out] at this; omega
      have hle : rows.length ≤ 10000 := by omega
      have HM := Lib.hid (show ∀ y : SlotBd, y.1 = x.1 → (rows ++ [y]).map (·.1) = (xs.take (j + 1)).map (·.1) from fun y hy => by
        rw [List.take_add_one, hx, List.map_append, List.map_append, hm]
        simp [hy])
      have hzr := ha.g.size
      obtain ⟨k2, hk2e⟩ : ∃ k2, k2 = k1 + (bdsL (xs.take (j + 1))).length := ⟨_, rfl⟩
      have HK2 := Lib.hid hk2e
      rw [← hk2e] at HGe
      clear ha hG hm hx hdj hk2 hrl hk2e
      go_wp2_with (first
        | (go_at_call 27; go_must ((with_reducible refine HGe.out.mono ?_); intro e w2 hq; obtain ⟨⟨y, ⟨A, c⟩, ⟨B, d⟩⟩, hyx, rfl, hh, hs, hg⟩ := hq; have HA2 := Lib.hid (HA.out.step hp hg hs); have hz2 := HA2.out.g.size; have HYX := Lib.hid hyx; have HX := Lib.hid (Whole.made w2 55 (cC (y, (A, c), (B, d)))); have HH := Lib.hid ((hh.mono hzr).later (below_box w2 (.cells (cC (y, (A, c), (B, d))) 55))); clear hs hg hh hyx))
        | (at_builtin; (refine rowBd_new rfl _ _ rfl w.heap.size _ rows rfl (HA2.out.alloc hp _).r w2.heap.size (y, (A, c), (B, d)) rfl HX.out HH.out hle (Nat.le_trans hz2 (below_box w2 _).size) ?_; intro v3 w3 hr3 hg3; have HA3 := Lib.hid ((HA2.out.alloc hp _).more hp hg3 hr3); clear hr3 hg3)))
      go_roundw
      case rel => exact ⟨j + 1, rows ++ [(y, (A, c), (B, d))], by omega, by go_num, HM.out _ HYX.out, by rw [← HK2.out]; exact HA3.out⟩
      case measure => simp [intOf]; omega
    · have hjn : j = xs.length := by rw [← HN.out]; omega
      rw [hjn, List.take_length] at hm ha
      rw [← HLE.out] at ha
      have HA := Lib.hid ha
      have HM := Lib.hid hm
      have HEn := Lib.hid (end_ok ha.sc)
      clear ha hm hjn
      go_wp2_with (go_at_call 77; go_must ((with_reducible refine HEn.out.mono ?_); rintro e w2 ⟨rfl, m, rfl⟩))
      go_ret
      have HA2 := HA.out.step hp (gb_drewN (gb_refl _ _) m) (HA.out.sc.drewN m)
      exact ⟨_, rows, rfl, HA2.r, HM.out, HA2.g⟩
theorem getall_bd {w : World} {p : Nat} {xs : List SlotBd} (h : Sc w p (allBd xs) 0) (hT : TbP p w) (ho : OkBds xs) (h0 : errBd xs = 0) (h20 : xs.length ≤ 20) :
    Calls Tryz.prog 35 #[.pointer (some ⟨p, 0, none⟩)] w (GotAllBd p (xs.map (·.1)) w) := by
  have HP := Lib.hid (wgetall_bd h hT ho h0 h20)
  unfold GotAllBd at HP ⊢
  clear h hT ho h0 h20
  go_enter Tryz.func35, Tryz.ntmps35
  go_wp2_with (go_at_call 69; go_must ((with_reducible refine HP.out.mono ?_); intro e w1 hq; obtain ⟨v, rows, rfl, hr, hm, hg⟩ := hq; have HR := Lib.hid hr; have HG := Lib.hid hg; have HM := Lib.hid hm; clear hr hg hm))
  go_ret
  exact ⟨_, rows, rfl, HR.out, HM.out, HG.out⟩
end Go.Proofs.YtnfhhamkicnpjaaGreatDoor
