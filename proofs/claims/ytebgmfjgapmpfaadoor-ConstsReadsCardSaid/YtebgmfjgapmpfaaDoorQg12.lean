/- The reference's constant expression of any bytes. (By gen/genRefC.py.) -/
import Derived.Test.YtebgmfjgapmpfaaDoorQg11
import Derived.Test.YtebgmfjgapmpfaaDoorQg09
import Derived.Test.YtebgmfjgapmpfaaDoorQg07
import Derived.Test.YtebgmfjgapmpfaaDoorQg03
import Derived.Test.YtebgmfjgapmpfaaDoorQg04
import Derived.RegionTactic
import Derived.Test.YtebgmfjgapmpfaaDoorQg02
import Derived.Test.YtebgmfjgapmpfaaDoorQg01
import Derived.Test.YtebgmfjgapmpfaaDoorQg10
import Derived.Test.YtebgmfjgapmpfaaDoorQg08
namespace Go.Proofs.YtebgmfjgapmpfaaDoor
open Go.RowKit
set_option linter.unusedVariables false
set_option maxRecDepth 100000

/-- How far the reference's reader of constant expressions has come. -/
structure RcS (w : World) (q : Nat) (l : List UInt8) (H2 : Nat) (A : Option Addr) (ls : List Int) (s : RSt) (v0 v1 v2 v3 : Value) (W : World) : Prop where
  res : Whole W w.heap.size 25 #[.int .u8 0, .int .u64 0, .int .u64 0, .slice none 0 0]
  box : Whole W H2 25 #[v0, v1, v2, v3]
  rs : Rs W q l s
  gr : w.grownBy W (some q)
  hq : q < w.heap.size
  h2 : w.heap.size < H2
  lab : Lies W W.heap.size A (cells32 ls)
  far : ∀ a, A = some a → w.heap.size < a.block
section
variable {w : World} {q : Nat} {l : List UInt8} {H2 : Nat} {A : Option Addr} {ls : List Int} {s s' : RSt} {v0 v1 v2 v3 : Value} {W W' : World}
theorem RcS.call (h : RcS w q l H2 A ls s v0 v1 v2 v3 W) (hs : Rs W' q l s') (hg : W.grownBy W' (some q)) : RcS w q l H2 A ls s' v0 v1 v2 v3 W' := by
  have a := h.hq
  have b := h.h2
  exact ⟨h.res.grown hg (by simp only [ne_eq, Option.some.injEq]; omega), h.box.grown hg (by simp only [ne_eq, Option.some.injEq]; omega), hs, gb_trans h.gr hg, h.hq, h.h2, h.lab.keep hg (fun x hx => by have := h.far x hx; omega), h.far⟩
theorem RcS.below (h : RcS w q l H2 A ls s v0 v1 v2 v3 W) (hb : Below W.heap.size W W') : RcS w q l H2 A ls s v0 v1 v2 v3 W' := h.call (h.rs.below hb) (gb_of_below _ hb)
theorem RcS.fin (h : RcS w q l H2 A ls s v0 v1 v2 v3 W) (x0 x1 x2 x3 : Value) (W4 : World) (hW : W4 = (((W.setCell ⟨w.heap.size, 0, none⟩ x0).setCell ⟨w.heap.size, 1, none⟩ x1).setCell ⟨w.heap.size, 2, none⟩ x2).setCell ⟨w.heap.size, 3, none⟩ x3) :
    Whole W4 w.heap.size 25 #[x0, x1, x2, x3] ∧ Rs W4 q l s ∧ w.grownBy W4 (some q) ∧ Lies W4 W4.heap.size A (cells32 ls) := by
  subst hW
  have a := h.hq
  have b := h.h2
  have hg := gb_put (p := ⟨w.heap.size, 3, none⟩) (gb_put (p := ⟨w.heap.size, 2, none⟩) (gb_put (p := ⟨w.heap.size, 1, none⟩) (gb_put (p := ⟨w.heap.size, 0, none⟩) (gb_refl W (some w.heap.size)) (.inl rfl) x0) (.inl rfl) x1) (.inl rfl) x2) (.inl rfl) x3
  exact ⟨(((h.res.put 0 x0).put 1 x1).put 2 x2).put 3 x3, h.rs.grown hg (by simp only [ne_eq, Option.some.injEq]; omega) (fun g e => by injection e with e; omega), gb_before h.gr hg (fun g e => .inr (by injection e with e; omega)), h.lab.keep hg (fun x hx => by have := h.far x hx; omega)⟩
end
theorem rc_ok {w : World} {q : Nat} {l : List UInt8} {i : I} {H2 : Nat} {A : Option Addr} {c k : Nat} {v0 v1 v2 v3 : Value} {W W4 : World} (h : RcS w q l H2 A i.l (.at k) v0 v1 v2 v3 W) (hf : Rs W4 q l (.at k) ∧ w.grownBy W4 (some q) ∧ Lies W4 W4.heap.size A (cells32 i.l)) :
    RGets q l (.ok i k) w (.returned (insV i A c)) W4 := ⟨A, c, rfl, hf.2.2, fun a ha => by have := h.far a ha; omega, hf.1, hf.2.1⟩
set_option maxHeartbeats 4000000 in
theorem refC_any {w : World} {q : Nat} {l : List UInt8} {k : Nat} (h : Rs w q l (.at k)) :
    Calls Tryd.prog 33 #[.pointer (some ⟨q, 0, none⟩)] w (RGets q l (readR l k) w) := by
  have hlt := h.lt
  have HZ := Lib.hid (h.alloc (.cells #[.int .u8 0, .int .u64 0, .int .u64 0, .slice none 0 0] 25))
  have y1 := at_at HZ.out
  have hG := refG_any HZ.out
  have HWM := Lib.hid (Whole.made w 25 #[.int .u8 0, .int .u64 0, .int .u64 0, .slice none 0 0])
  have hstart : ∀ (A : Option Addr) (ls : List Int) (s : RSt) (v0 v1 v2 v3 : Value) w1, Rs w1 q l s → (w.alloc (.cells #[.int .u8 0, .int .u64 0, .int .u64 0, .slice none 0 0] 25)).grownBy w1 (some q) → Lies w1 w1.heap.size A (cells32 ls) → (∀ a, A = some a → (w.alloc (.cells #[.int .u8 0, .int .u64 0, .int .u64 0, .slice none 0 0] 25)).heap.size ≤ a.block) →
      RcS w q l w1.heap.size A ls s v0 v1 v2 v3 (w1.alloc (.cells #[v0, v1, v2, v3] 25)) := fun A ls s v0 v1 v2 v3 w1 hs1 hg1 hla hfar => by
    have hz := hg1.size
    rw [size_box] at hz
    exact ⟨(HWM.out.grown hg1 (by simp only [ne_eq, Option.some.injEq]; omega)).alloc _, Whole.made _ _ _, hs1.alloc _, gb_alloc (gb_trans (gb_alloc (gb_refl w _) _) hg1) _, hlt, by omega, lies_box hla _, fun a ha => by have := hfar a ha; rw [size_box] at this; omega⟩
  have HST := Lib.hid hstart
  have HFB := Lib.hid (fun (W : World) (c a x y : Int) (h : Rs W q l (.bad c a)) (hx : x ≠ 0) => show Calls Tryd.prog 83 #[.pointer (some ⟨q, 0, none⟩), .int .i64 x, .int .i64 y] W fun e w' => e = .returned (.tuple #[]) ∧ Rs w' q l (.bad c a) ∧ W.grownBy w' (some q) from fail_ref h x y hx)
  have HBB := Lib.hid (fun (W : World) (c a : Int) (h : Rs W q l (.bad c a)) => show Calls Tryd.prog 84 #[.pointer (some ⟨q, 0, none⟩)] W fun e w' => e = .returned (.int .i64 0) ∧ Rs w' q l (.bad c a) ∧ W.grownBy w' (some q) from byte_ref h)
  have h12 : (12 : Int) ≠ 0 := by decide
  unfold readR
  cases hr : getR l k with
  | err ec ea =>
    rw [hr] at hG
    rw [Res.bind_err]
    have HG := Lib.hid (show Calls Tryd.prog 82 #[.pointer (some ⟨q, 0, none⟩)] (w.alloc (.cells #[.int .u8 0, .int .u64 0, .int .u64 0, .slice none 0 0] 25)) fun e w' => e = .returned (.agg #[.int .u8 0, .int .u64 0, .int .u64 0, .slice none 0 0]) ∧ Rs w' q l (.bad ec ea) ∧ (w.alloc (.cells #[.int .u8 0, .int .u64 0, .int .u64 0, .slice none 0 0] 25)).grownBy w' (some q) from hG)
    have hne : ∀ W, Rs W q l (.bad ec ea) → (ec != 0) = true ∧ (ec == 0) = false := fun W h => ⟨by simpa using h.nz, by simpa using h.nz⟩
    have HNE := Lib.hid hne
    clear h hG hr hstart hne HZ
    go_enter Tryd.func33, Tryd.ntmps33
    go_wp2_with (first
      | (go_at_call 82; go_must ((with_reducible refine HG.out.mono ?_); rintro e w1 ⟨rfl, hs, hg⟩; obtain ⟨dw, dw2⟩ := HNE.out _ hs; have HG1 := Lib.hid (HST.out none [] (.bad ec ea) (.int .u8 0) (.int .u64 0) (.int .u64 0) (.slice none 0 0) w1 hs hg (fun j v hv => by simp [cells32] at hv) (fun a e => by cases e)); have hh := HG1.out.h2; have hqq := HG1.out.hq; have n1 : ¬ w1.heap.size = w.heap.size := (by omega); have n2 : ¬ w.heap.size = w1.heap.size := (by omega); have n3 : ¬ w1.heap.size = q := (by omega); have n4 : ¬ q = w1.heap.size := (by omega); clear hh hqq; have c0 := HG1.out.box.cell 0; have c1 := HG1.out.box.cell 1; have c2 := HG1.out.box.cell 2; have c3 := HG1.out.box.cell 3; have r0 := HG1.out.res.cell 0; have r1 := HG1.out.res.cell 1; have r2 := HG1.out.res.cell 2; have r3 := HG1.out.res.cell 3; have z0 := HG1.out.res.frozen 0; have z1 := HG1.out.res.frozen 1; have z2 := HG1.out.res.frozen 2; have z3 := HG1.out.res.frozen 3; simp only [List.getElem?_toArray, List.getElem?_cons_zero, List.getElem?_cons_succ] at c0 c1 c2 c3 r0 r1 r2 r3; obtain ⟨jat1, x1⟩ := at_bad HG1.out.rs; have x2 := why_bad HG1.out.rs; clear hs hg y1))
      | (go_at_call 84; go_must ((with_reducible refine (HBB.out _ ec ea HG1.out.rs).mono ?_); rintro e w2 ⟨rfl, hs, hg⟩; clear c0 c1 c2 c3 r0 r1 r2 r3 z0 z1 z2 z3 x1 x2; have HG2 := Lib.hid (HG1.out.call hs hg); have c0 := HG2.out.box.cell 0; have c1 := HG2.out.box.cell 1; have c2 := HG2.out.box.cell 2; have c3 := HG2.out.box.cell 3; have r0 := HG2.out.res.cell 0; have r1 := HG2.out.res.cell 1; have r2 := HG2.out.res.cell 2; have r3 := HG2.out.res.cell 3; have z0 := HG2.out.res.frozen 0; have z1 := HG2.out.res.frozen 1; have z2 := HG2.out.res.frozen 2; have z3 := HG2.out.res.frozen 3; simp only [List.getElem?_toArray, List.getElem?_cons_zero, List.getElem?_cons_succ] at c0 c1 c2 c3 r0 r1 r2 r3; obtain ⟨jat2, x1⟩ := at_bad HG2.out.rs; have x2 := why_bad HG2.out.rs; clear hs hg))
      | (go_at_call 83; go_must ((with_reducible refine (HFB.out _ ec ea 12 _ HG2.out.rs h12).mono ?_); rintro e w3 ⟨rfl, hs, hg⟩; clear c0 c1 c2 c3 r0 r1 r2 r3 z0 z1 z2 z3 x1 x2; have HG3 := Lib.hid (HG2.out.call hs hg); have c0 := HG3.out.box.cell 0; have c1 := HG3.out.box.cell 1; have c2 := HG3.out.box.cell 2; have c3 := HG3.out.box.cell 3; have r0 := HG3.out.res.cell 0; have r1 := HG3.out.res.cell 1; have r2 := HG3.out.res.cell 2; have r3 := HG3.out.res.cell 3; have z0 := HG3.out.res.frozen 0; have z1 := HG3.out.res.frozen 1; have z2 := HG3.out.res.frozen 2; have z3 := HG3.out.res.frozen 3; simp only [List.getElem?_toArray, List.getElem?_cons_zero, List.getElem?_cons_succ] at c0 c1 c2 c3 r0 r1 r2 r3; obtain ⟨jat3, x1⟩ := at_bad HG3.out.rs; have x2 := why_bad HG3.out.rs; clear hs hg)))
    obtain ⟨q4, hf⟩ := HG3.out.fin (.int .u8 0) (.int .u64 0) (.int .u64 0) (.slice none 0 0) _ rfl
    have q0 := q4.cell 0
    have q1 := q4.cell 1
    have q2 := q4.cell 2
    have q3 := q4.cell 3
    simp only [List.getElem?_toArray, List.getElem?_cons_zero, List.getElem?_cons_succ] at q0 q1 q2 q3
    exact bodyPost_ret (v := .agg #[.int .u8 0, .int .u64 0, .int .u64 0, .slice none 0 0]) (by simp [results, Tryd.results33, go_sem, q0, q1, q2, q3]) rfl (rgets_no hf)
  | ok i k1 =>
    rw [hr] at hG
    rw [Res.bind_ok]
    obtain ⟨oi, hl10, hk1⟩ := getR_ok hr
    have HG := Lib.hid (show Calls Tryd.prog 82 #[.pointer (some ⟨q, 0, none⟩)] (w.alloc (.cells #[.int .u8 0, .int .u64 0, .int .u64 0, .slice none 0 0] 25)) fun e w' => ∃ A c, e = .returned (insV i A c) ∧ Lies w' w'.heap.size A (cells32 i.l) ∧ (∀ a, A = some a → (w.alloc (.cells #[.int .u8 0, .int .u64 0, .int .u64 0, .slice none 0 0] 25)).heap.size ≤ a.block) ∧ Rs w' q l (.at k1) ∧ (w.alloc (.cells #[.int .u8 0, .int .u64 0, .int .u64 0, .slice none 0 0] 25)).grownBy w' (some q) from hG)
    have HCR := Lib.hid (fun W (A : Option Addr) (c : Nat) => rcright_any i A c W oi (by omega))
    clear h hG hr hstart hl10 hk1 oi HZ
    obtain ⟨z, hz⟩ : ∃ z, z = crightZ i := ⟨_, rfl⟩
    rw [← hz] at HCR ⊢
    clear hz
    by_cases h0 : z = 0
    · subst h0
      rw [if_pos rfl]
      cases hb : byteR l k1 with
      | err ec ea =>
        rw [Res.bind_err]
        have HX := Lib.hid (fun W (h : Rs W q l (.at k1)) => show Calls Tryd.prog 84 #[.pointer (some ⟨q, 0, none⟩)] W fun e w' => e = .returned (.int .i64 0) ∧ Rs w' q l (.bad ec ea) ∧ W.grownBy w' (some q) from by have := byte_ref h; rw [show (RSt.at k1).bind (byteR l) = byteR l k1 from rfl, hb] at this; exact this)
        have dw : (ec != 0) = true := by have := byteR_nz hb; simpa using this
        have dw2 : (ec == 0) = false := by have := byteR_nz hb; simpa using this
        clear hb
        go_enter Tryd.func33, Tryd.ntmps33
        go_wp2_with (first
          | (go_at_call 82; go_must ((with_reducible refine HG.out.mono ?_); intro e w1 hqq; obtain ⟨A, c, rfl, hla, hfar, hs, hg⟩ := hqq; have HG1 := Lib.hid (HST.out A i.l (.at k1) (.int .u8 i.op.toNat) (.int .u64 i.a) (.int .u64 i.b) (.slice A i.l.length c) w1 hs hg hla hfar); have hh := HG1.out.h2; have hqq := HG1.out.hq; have n1 : ¬ w1.heap.size = w.heap.size := (by omega); have n2 : ¬ w.heap.size = w1.heap.size := (by omega); have n3 : ¬ w1.heap.size = q := (by omega); have n4 : ¬ q = w1.heap.size := (by omega); clear hh hqq; have c0 := HG1.out.box.cell 0; have c1 := HG1.out.box.cell 1; have c2 := HG1.out.box.cell 2; have c3 := HG1.out.box.cell 3; have r0 := HG1.out.res.cell 0; have r1 := HG1.out.res.cell 1; have r2 := HG1.out.res.cell 2; have r3 := HG1.out.res.cell 3; have z0 := HG1.out.res.frozen 0; have z1 := HG1.out.res.frozen 1; have z2 := HG1.out.res.frozen 2; have z3 := HG1.out.res.frozen 3; simp only [List.getElem?_toArray, List.getElem?_cons_zero, List.getElem?_cons_succ] at c0 c1 c2 c3 r0 r1 r2 r3; have x1 := at_at HG1.out.rs; have x2 := why_at HG1.out.rs; clear hs hg hla hfar y1))
          | (go_at_call 24; go_must ((with_reducible refine (HCR.out _ _ _).mono ?_); rintro e w2 ⟨rfl, hb⟩; clear c0 c1 c2 c3 r0 r1 r2 r3 z0 z1 z2 z3 x1 x2; have HG2 := Lib.hid (HG1.out.below hb); have c0 := HG2.out.box.cell 0; have c1 := HG2.out.box.cell 1; have c2 := HG2.out.box.cell 2; have c3 := HG2.out.box.cell 3; have r0 := HG2.out.res.cell 0; have r1 := HG2.out.res.cell 1; have r2 := HG2.out.res.cell 2; have r3 := HG2.out.res.cell 3; have z0 := HG2.out.res.frozen 0; have z1 := HG2.out.res.frozen 1; have z2 := HG2.out.res.frozen 2; have z3 := HG2.out.res.frozen 3; simp only [List.getElem?_toArray, List.getElem?_cons_zero, List.getElem?_cons_succ] at c0 c1 c2 c3 r0 r1 r2 r3; have x1 := at_at HG2.out.rs; have x2 := why_at HG2.out.rs; clear hb))
          | (go_at_call 84; go_must ((with_reducible refine (HX.out _ HG2.out.rs).mono ?_); rintro e w3 ⟨rfl, hs, hg⟩; clear c0 c1 c2 c3 r0 r1 r2 r3 z0 z1 z2 z3 x1 x2; have HG3 := Lib.hid (HG2.out.call hs hg); have c0 := HG3.out.box.cell 0; have c1 := HG3.out.box.cell 1; have c2 := HG3.out.box.cell 2; have c3 := HG3.out.box.cell 3; have r0 := HG3.out.res.cell 0; have r1 := HG3.out.res.cell 1; have r2 := HG3.out.res.cell 2; have r3 := HG3.out.res.cell 3; have z0 := HG3.out.res.frozen 0; have z1 := HG3.out.res.frozen 1; have z2 := HG3.out.res.frozen 2; have z3 := HG3.out.res.frozen 3; simp only [List.getElem?_toArray, List.getElem?_cons_zero, List.getElem?_cons_succ] at c0 c1 c2 c3 r0 r1 r2 r3; obtain ⟨jat3, x1⟩ := at_bad HG3.out.rs; have x2 := why_bad HG3.out.rs; clear hs hg))
          | (go_at_call 83; go_must ((with_reducible refine (HFB.out _ ec ea 12 _ HG3.out.rs h12).mono ?_); rintro e w4 ⟨rfl, hs, hg⟩; clear c0 c1 c2 c3 r0 r1 r2 r3 z0 z1 z2 z3 x1 x2; have HG4 := Lib.hid (HG3.out.call hs hg); have c0 := HG4.out.box.cell 0; have c1 := HG4.out.box.cell 1; have c2 := HG4.out.box.cell 2; have c3 := HG4.out.box.cell 3; have r0 := HG4.out.res.cell 0; have r1 := HG4.out.res.cell 1; have r2 := HG4.out.res.cell 2; have r3 := HG4.out.res.cell 3; have z0 := HG4.out.res.frozen 0; have z1 := HG4.out.res.frozen 1; have z2 := HG4.out.res.frozen 2; have z3 := HG4.out.res.frozen 3; simp only [List.getElem?_toArray, List.getElem?_cons_zero, List.getElem?_cons_succ] at c0 c1 c2 c3 r0 r1 r2 r3; obtain ⟨jat4, x1⟩ := at_bad HG4.out.rs; have x2 := why_bad HG4.out.rs; clear hs hg)))
        obtain ⟨q4, hf⟩ := HG4.out.fin (.int .u8 0) (.int .u64 0) (.int .u64 0) (.slice none 0 0) _ rfl
        have q0 := q4.cell 0
        have q1 := q4.cell 1
        have q2 := q4.cell 2
        have q3 := q4.cell 3
        simp only [List.getElem?_toArray, List.getElem?_cons_zero, List.getElem?_cons_succ] at q0 q1 q2 q3
        exact bodyPost_ret (v := .agg #[.int .u8 0, .int .u64 0, .int .u64 0, .slice none 0 0]) (by simp [results, Tryd.results33, go_sem, q0, q1, q2, q3]) rfl (rgets_no hf)
      | ok d k2 =>
        rw [Res.bind_ok]
        have HX := Lib.hid (fun W (h : Rs W q l (.at k1)) => show Calls Tryd.prog 84 #[.pointer (some ⟨q, 0, none⟩)] W fun e w' => e = .returned (.int .i64 d.toNat) ∧ Rs w' q l (.at k2) ∧ W.grownBy w' (some q) from by have := byte_ref h; rw [show (RSt.at k1).bind (byteR l) = byteR l k1 from rfl, hb] at this; exact this)
        clear hb
        by_cases hd : d = 11
        · rw [if_pos hd]
          have dd : ((d.toNat : Int) != 11) = false := by rw [hd]; rfl
          clear hd
          go_enter Tryd.func33, Tryd.ntmps33
          go_wp2_with (first
            | (go_at_call 82; go_must ((with_reducible refine HG.out.mono ?_); intro e w1 hqq; obtain ⟨A, c, rfl, hla, hfar, hs, hg⟩ := hqq; have HG1 := Lib.hid (HST.out A i.l (.at k1) (.int .u8 i.op.toNat) (.int .u64 i.a) (.int .u64 i.b) (.slice A i.l.length c) w1 hs hg hla hfar); have hh := HG1.out.h2; have hqq := HG1.out.hq; have n1 : ¬ w1.heap.size = w.heap.size := (by omega); have n2 : ¬ w.heap.size = w1.heap.size := (by omega); have n3 : ¬ w1.heap.size = q := (by omega); have n4 : ¬ q = w1.heap.size := (by omega); clear hh hqq; have c0 := HG1.out.box.cell 0; have c1 := HG1.out.box.cell 1; have c2 := HG1.out.box.cell 2; have c3 := HG1.out.box.cell 3; have r0 := HG1.out.res.cell 0; have r1 := HG1.out.res.cell 1; have r2 := HG1.out.res.cell 2; have r3 := HG1.out.res.cell 3; have z0 := HG1.out.res.frozen 0; have z1 := HG1.out.res.frozen 1; have z2 := HG1.out.res.frozen 2; have z3 := HG1.out.res.frozen 3; simp only [List.getElem?_toArray, List.getElem?_cons_zero, List.getElem?_cons_succ] at c0 c1 c2 c3 r0 r1 r2 r3; have x1 := at_at HG1.out.rs; have x2 := why_at HG1.out.rs; clear hs hg hla hfar y1))
            | (go_at_call 24; go_must ((with_reducible refine (HCR.out _ _ _).mono ?_); rintro e w2 ⟨rfl, hb⟩; clear c0 c1 c2 c3 r0 r1 r2 r3 z0 z1 z2 z3 x1 x2; have HG2 := Lib.hid (HG1.out.below hb); have c0 := HG2.out.box.cell 0; have c1 := HG2.out.box.cell 1; have c2 := HG2.out.box.cell 2; have c3 := HG2.out.box.cell 3; have r0 := HG2.out.res.cell 0; have r1 := HG2.out.res.cell 1; have r2 := HG2.out.res.cell 2; have r3 := HG2.out.res.cell 3; have z0 := HG2.out.res.frozen 0; have z1 := HG2.out.res.frozen 1; have z2 := HG2.out.res.frozen 2; have z3 := HG2.out.res.frozen 3; simp only [List.getElem?_toArray, List.getElem?_cons_zero, List.getElem?_cons_succ] at c0 c1 c2 c3 r0 r1 r2 r3; have x1 := at_at HG2.out.rs; have x2 := why_at HG2.out.rs; clear hb))
            | (go_at_call 84; go_must ((with_reducible refine (HX.out _ HG2.out.rs).mono ?_); rintro e w3 ⟨rfl, hs, hg⟩; clear c0 c1 c2 c3 r0 r1 r2 r3 z0 z1 z2 z3 x1 x2; have HG3 := Lib.hid (HG2.out.call hs hg); have c0 := HG3.out.box.cell 0; have c1 := HG3.out.box.cell 1; have c2 := HG3.out.box.cell 2; have c3 := HG3.out.box.cell 3; have r0 := HG3.out.res.cell 0; have r1 := HG3.out.res.cell 1; have r2 := HG3.out.res.cell 2; have r3 := HG3.out.res.cell 3; have z0 := HG3.out.res.frozen 0; have z1 := HG3.out.res.frozen 1; have z2 := HG3.out.res.frozen 2; have z3 := HG3.out.res.frozen 3; simp only [List.getElem?_toArray, List.getElem?_cons_zero, List.getElem?_cons_succ] at c0 c1 c2 c3 r0 r1 r2 r3; have x1 := at_at HG3.out.rs; have x2 := why_at HG3.out.rs; clear hs hg)))
          obtain ⟨q4, hf⟩ := HG3.out.fin (.int .u8 i.op.toNat) (.int .u64 i.a) (.int .u64 i.b) (.slice A i.l.length c) _ rfl
          have q0 := q4.cell 0
          have q1 := q4.cell 1
          have q2 := q4.cell 2
          have q3 := q4.cell 3
          simp only [List.getElem?_toArray, List.getElem?_cons_zero, List.getElem?_cons_succ] at q0 q1 q2 q3
          exact bodyPost_ret (v := insV i A c) (by simp [results, Tryd.results33, go_sem, q0, q1, q2, q3]) rfl (rc_ok HG3.out hf)
        · rw [if_neg hd]
          have dd : ((d.toNat : Int) != 11) = true := by
            have : d.toNat ≠ 11 := fun e => hd (UInt8.toNat_inj.1 (by rw [e]; rfl))
            simp; omega
          have HF := Lib.hid (fun W (h : Rs W q l (.at k2)) => show Calls Tryd.prog 83 #[.pointer (some ⟨q, 0, none⟩), .int .i64 12, .int .i64 k1] W fun e w' => e = .returned (.tuple #[]) ∧ Rs w' q l (.bad 12 k1) ∧ W.grownBy w' (some q) from fail_ref h 12 k1 h12)
          clear hd
          go_enter Tryd.func33, Tryd.ntmps33
          go_wp2_with (first
            | (go_at_call 82; go_must ((with_reducible refine HG.out.mono ?_); intro e w1 hqq; obtain ⟨A, c, rfl, hla, hfar, hs, hg⟩ := hqq; have HG1 := Lib.hid (HST.out A i.l (.at k1) (.int .u8 i.op.toNat) (.int .u64 i.a) (.int .u64 i.b) (.slice A i.l.length c) w1 hs hg hla hfar); have hh := HG1.out.h2; have hqq := HG1.out.hq; have n1 : ¬ w1.heap.size = w.heap.size := (by omega); have n2 : ¬ w.heap.size = w1.heap.size := (by omega); have n3 : ¬ w1.heap.size = q := (by omega); have n4 : ¬ q = w1.heap.size := (by omega); clear hh hqq; have c0 := HG1.out.box.cell 0; have c1 := HG1.out.box.cell 1; have c2 := HG1.out.box.cell 2; have c3 := HG1.out.box.cell 3; have r0 := HG1.out.res.cell 0; have r1 := HG1.out.res.cell 1; have r2 := HG1.out.res.cell 2; have r3 := HG1.out.res.cell 3; have z0 := HG1.out.res.frozen 0; have z1 := HG1.out.res.frozen 1; have z2 := HG1.out.res.frozen 2; have z3 := HG1.out.res.frozen 3; simp only [List.getElem?_toArray, List.getElem?_cons_zero, List.getElem?_cons_succ] at c0 c1 c2 c3 r0 r1 r2 r3; have x1 := at_at HG1.out.rs; have x2 := why_at HG1.out.rs; clear hs hg hla hfar y1))
            | (go_at_call 24; go_must ((with_reducible refine (HCR.out _ _ _).mono ?_); rintro e w2 ⟨rfl, hb⟩; clear c0 c1 c2 c3 r0 r1 r2 r3 z0 z1 z2 z3 x1 x2; have HG2 := Lib.hid (HG1.out.below hb); have c0 := HG2.out.box.cell 0; have c1 := HG2.out.box.cell 1; have c2 := HG2.out.box.cell 2; have c3 := HG2.out.box.cell 3; have r0 := HG2.out.res.cell 0; have r1 := HG2.out.res.cell 1; have r2 := HG2.out.res.cell 2; have r3 := HG2.out.res.cell 3; have z0 := HG2.out.res.frozen 0; have z1 := HG2.out.res.frozen 1; have z2 := HG2.out.res.frozen 2; have z3 := HG2.out.res.frozen 3; simp only [List.getElem?_toArray, List.getElem?_cons_zero, List.getElem?_cons_succ] at c0 c1 c2 c3 r0 r1 r2 r3; have x1 := at_at HG2.out.rs; have x2 := why_at HG2.out.rs; clear hb))
            | (go_at_call 84; go_must ((with_reducible refine (HX.out _ HG2.out.rs).mono ?_); rintro e w3 ⟨rfl, hs, hg⟩; clear c0 c1 c2 c3 r0 r1 r2 r3 z0 z1 z2 z3 x1 x2; have HG3 := Lib.hid (HG2.out.call hs hg); have c0 := HG3.out.box.cell 0; have c1 := HG3.out.box.cell 1; have c2 := HG3.out.box.cell 2; have c3 := HG3.out.box.cell 3; have r0 := HG3.out.res.cell 0; have r1 := HG3.out.res.cell 1; have r2 := HG3.out.res.cell 2; have r3 := HG3.out.res.cell 3; have z0 := HG3.out.res.frozen 0; have z1 := HG3.out.res.frozen 1; have z2 := HG3.out.res.frozen 2; have z3 := HG3.out.res.frozen 3; simp only [List.getElem?_toArray, List.getElem?_cons_zero, List.getElem?_cons_succ] at c0 c1 c2 c3 r0 r1 r2 r3; have x1 := at_at HG3.out.rs; have x2 := why_at HG3.out.rs; clear hs hg))
            | (go_at_call 83; go_must ((with_reducible refine (HF.out _ HG3.out.rs).mono ?_); rintro e w4 ⟨rfl, hs, hg⟩; clear c0 c1 c2 c3 r0 r1 r2 r3 z0 z1 z2 z3 x1 x2; have HG4 := Lib.hid (HG3.out.call hs hg); have c0 := HG4.out.box.cell 0; have c1 := HG4.out.box.cell 1; have c2 := HG4.out.box.cell 2; have c3 := HG4.out.box.cell 3; have r0 := HG4.out.res.cell 0; have r1 := HG4.out.res.cell 1; have r2 := HG4.out.res.cell 2; have r3 := HG4.out.res.cell 3; have z0 := HG4.out.res.frozen 0; have z1 := HG4.out.res.frozen 1; have z2 := HG4.out.res.frozen 2; have z3 := HG4.out.res.frozen 3; simp only [List.getElem?_toArray, List.getElem?_cons_zero, List.getElem?_cons_succ] at c0 c1 c2 c3 r0 r1 r2 r3; obtain ⟨jat4, x1⟩ := at_bad HG4.out.rs; have x2 := why_bad HG4.out.rs; clear hs hg)))
          obtain ⟨q4, hf⟩ := HG4.out.fin (.int .u8 0) (.int .u64 0) (.int .u64 0) (.slice none 0 0) _ rfl
          have q0 := q4.cell 0
          have q1 := q4.cell 1
          have q2 := q4.cell 2
          have q3 := q4.cell 3
          simp only [List.getElem?_toArray, List.getElem?_cons_zero, List.getElem?_cons_succ] at q0 q1 q2 q3
          exact bodyPost_ret (v := .agg #[.int .u8 0, .int .u64 0, .int .u64 0, .slice none 0 0]) (by simp [results, Tryd.results33, go_sem, q0, q1, q2, q3]) rfl (rgets_no hf)
    · rw [if_neg h0]
      have dz : (z != 0) = true := by simpa using h0
      have dz2 : (z == 0) = false := by simpa using h0
      have HF := Lib.hid (fun W (h : Rs W q l (.at k1)) => show Calls Tryd.prog 83 #[.pointer (some ⟨q, 0, none⟩), .int .i64 z, .int .i64 k] W fun e w' => e = .returned (.tuple #[]) ∧ Rs w' q l (.bad z k) ∧ W.grownBy w' (some q) from fail_ref h z k h0)
      clear h0
      go_enter Tryd.func33, Tryd.ntmps33
      go_wp2_with (first
        | (go_at_call 82; go_must ((with_reducible refine HG.out.mono ?_); intro e w1 hqq; obtain ⟨A, c, rfl, hla, hfar, hs, hg⟩ := hqq; have HG1 := Lib.hid (HST.out A i.l (.at k1) (.int .u8 i.op.toNat) (.int .u64 i.a) (.int .u64 i.b) (.slice A i.l.length c) w1 hs hg hla hfar); have hh := HG1.out.h2; have hqq := HG1.out.hq; have n1 : ¬ w1.heap.size = w.heap.size := (by omega); have n2 : ¬ w.heap.size = w1.heap.size := (by omega); have n3 : ¬ w1.heap.size = q := (by omega); have n4 : ¬ q = w1.heap.size := (by omega); clear hh hqq; have c0 := HG1.out.box.cell 0; have c1 := HG1.out.box.cell 1; have c2 := HG1.out.box.cell 2; have c3 := HG1.out.box.cell 3; have r0 := HG1.out.res.cell 0; have r1 := HG1.out.res.cell 1; have r2 := HG1.out.res.cell 2; have r3 := HG1.out.res.cell 3; have z0 := HG1.out.res.frozen 0; have z1 := HG1.out.res.frozen 1; have z2 := HG1.out.res.frozen 2; have z3 := HG1.out.res.frozen 3; simp only [List.getElem?_toArray, List.getElem?_cons_zero, List.getElem?_cons_succ] at c0 c1 c2 c3 r0 r1 r2 r3; have x1 := at_at HG1.out.rs; have x2 := why_at HG1.out.rs; clear hs hg hla hfar y1))
        | (have tok := HG2; go_at_call 24; go_must ((with_reducible refine (HCR.out _ _ _).mono ?_); rintro e w3 ⟨rfl, hb⟩; clear c0 c1 c2 c3 r0 r1 r2 r3 z0 z1 z2 z3 x1 x2; have HG3 := Lib.hid (HG2.out.below hb); have c0 := HG3.out.box.cell 0; have c1 := HG3.out.box.cell 1; have c2 := HG3.out.box.cell 2; have c3 := HG3.out.box.cell 3; have r0 := HG3.out.res.cell 0; have r1 := HG3.out.res.cell 1; have r2 := HG3.out.res.cell 2; have r3 := HG3.out.res.cell 3; have z0 := HG3.out.res.frozen 0; have z1 := HG3.out.res.frozen 1; have z2 := HG3.out.res.frozen 2; have z3 := HG3.out.res.frozen 3; simp only [List.getElem?_toArray, List.getElem?_cons_zero, List.getElem?_cons_succ] at c0 c1 c2 c3 r0 r1 r2 r3; have x1 := at_at HG3.out.rs; have x2 := why_at HG3.out.rs; clear hb))
        | (go_at_call 24; go_must ((with_reducible refine (HCR.out _ _ _).mono ?_); rintro e w2 ⟨rfl, hb⟩; clear c0 c1 c2 c3 r0 r1 r2 r3 z0 z1 z2 z3 x1 x2; have HG2 := Lib.hid (HG1.out.below hb); have c0 := HG2.out.box.cell 0; have c1 := HG2.out.box.cell 1; have c2 := HG2.out.box.cell 2; have c3 := HG2.out.box.cell 3; have r0 := HG2.out.res.cell 0; have r1 := HG2.out.res.cell 1; have r2 := HG2.out.res.cell 2; have r3 := HG2.out.res.cell 3; have z0 := HG2.out.res.frozen 0; have z1 := HG2.out.res.frozen 1; have z2 := HG2.out.res.frozen 2; have z3 := HG2.out.res.frozen 3; simp only [List.getElem?_toArray, List.getElem?_cons_zero, List.getElem?_cons_succ] at c0 c1 c2 c3 r0 r1 r2 r3; have x1 := at_at HG2.out.rs; have x2 := why_at HG2.out.rs; clear hb))
        | (have tok := HG5; go_at_call 83; go_must ((with_reducible refine (HFB.out _ z k 12 _ HG5.out.rs h12).mono ?_); rintro e w6 ⟨rfl, hs, hg⟩; clear c0 c1 c2 c3 r0 r1 r2 r3 z0 z1 z2 z3 x1 x2; have HG6 := Lib.hid (HG5.out.call hs hg); have c0 := HG6.out.box.cell 0; have c1 := HG6.out.box.cell 1; have c2 := HG6.out.box.cell 2; have c3 := HG6.out.box.cell 3; have r0 := HG6.out.res.cell 0; have r1 := HG6.out.res.cell 1; have r2 := HG6.out.res.cell 2; have r3 := HG6.out.res.cell 3; have z0 := HG6.out.res.frozen 0; have z1 := HG6.out.res.frozen 1; have z2 := HG6.out.res.frozen 2; have z3 := HG6.out.res.frozen 3; simp only [List.getElem?_toArray, List.getElem?_cons_zero, List.getElem?_cons_succ] at c0 c1 c2 c3 r0 r1 r2 r3; obtain ⟨jat6, x1⟩ := at_bad HG6.out.rs; have x2 := why_bad HG6.out.rs; clear hs hg))
        | (go_at_call 83; go_must ((with_reducible refine (HF.out _ HG3.out.rs).mono ?_); rintro e w4 ⟨rfl, hs, hg⟩; clear c0 c1 c2 c3 r0 r1 r2 r3 z0 z1 z2 z3 x1 x2; have HG4 := Lib.hid (HG3.out.call hs hg); have c0 := HG4.out.box.cell 0; have c1 := HG4.out.box.cell 1; have c2 := HG4.out.box.cell 2; have c3 := HG4.out.box.cell 3; have r0 := HG4.out.res.cell 0; have r1 := HG4.out.res.cell 1; have r2 := HG4.out.res.cell 2; have r3 := HG4.out.res.cell 3; have z0 := HG4.out.res.frozen 0; have z1 := HG4.out.res.frozen 1; have z2 := HG4.out.res.frozen 2; have z3 := HG4.out.res.frozen 3; simp only [List.getElem?_toArray, List.getElem?_cons_zero, List.getElem?_cons_succ] at c0 c1 c2 c3 r0 r1 r2 r3; obtain ⟨jat4, x1⟩ := at_bad HG4.out.rs; have x2 := why_bad HG4.out.rs; clear hs hg))
        | (go_at_call 84; go_must ((with_reducible refine (HBB.out _ z k HG4.out.rs).mono ?_); rintro e w5 ⟨rfl, hs, hg⟩; clear c0 c1 c2 c3 r0 r1 r2 r3 z0 z1 z2 z3 x1 x2; have HG5 := Lib.hid (HG4.out.call hs hg); have c0 := HG5.out.box.cell 0; have c1 := HG5.out.box.cell 1; have c2 := HG5.out.box.cell 2; have c3 := HG5.out.box.cell 3; have r0 := HG5.out.res.cell 0; have r1 := HG5.out.res.cell 1; have r2 := HG5.out.res.cell 2; have r3 := HG5.out.res.cell 3; have z0 := HG5.out.res.frozen 0; have z1 := HG5.out.res.frozen 1; have z2 := HG5.out.res.frozen 2; have z3 := HG5.out.res.frozen 3; simp only [List.getElem?_toArray, List.getElem?_cons_zero, List.getElem?_cons_succ] at c0 c1 c2 c3 r0 r1 r2 r3; obtain ⟨jat5, x1⟩ := at_bad HG5.out.rs; have x2 := why_bad HG5.out.rs; clear hs hg)))
      obtain ⟨q4, hf⟩ := HG6.out.fin (.int .u8 0) (.int .u64 0) (.int .u64 0) (.slice none 0 0) _ rfl
      have q0 := q4.cell 0
      have q1 := q4.cell 1
      have q2 := q4.cell 2
      have q3 := q4.cell 3
      simp only [List.getElem?_toArray, List.getElem?_cons_zero, List.getElem?_cons_succ] at q0 q1 q2 q3
      exact bodyPost_ret (v := .agg #[.int .u8 0, .int .u64 0, .int .u64 0, .slice none 0 0]) (by simp [results, Tryd.results33, go_sem, q0, q1, q2, q3]) rfl (rgets_no hf)
end Go.Proofs.YtebgmfjgapmpfaaDoor

/- abort.Value of a function that aborts; scan.Over of any bytes. -/
namespace Go.Proofs.YtebgmfjgapmpfaaDoor
open Go.RowKit
set_option linter.unusedVariables false
set_option maxRecDepth 100000

/-- Value's own closure: what aborts goes on. -/
theorem valClosE {g : FuncId} {cap : Array Value} {b1 b4 q : Nat} {w : World} {c a : Int} (hcf : ∀ w : World, (callFunc g cap).run Tryd.prog w = .ok (.enter g cap) w)
    (h1 : Whole w b1 59 #[.func (.func g) #[] cap])
    (h : Calls Tryd.prog g cap w fun e w' => e = .panicked (stopP c a) ∧ w.grownBy w' (some q)) :
    Calls Tryd.prog 79 #[.pointer (some ⟨b1, 0, none⟩), .pointer (some ⟨b4, 0, none⟩)] w fun e w' => e = .panicked (stopP c a) ∧ w.grownBy w' (some q) := by
  have hnil : ∀ w : World, (binOp BinOp.neq 59 (.func (.func g) #[] cap) .nilFunc).run Tryd.prog w = .ok (.bool true) w := fun _ => by kernel_rfl
  have c1 := h1.cell 0
  simp only [List.getElem?_toArray, List.getElem?_cons_zero] at c1
  have HH := Lib.hid h
  clear h h1
  go_enter Tryd.func79, Tryd.ntmps79
  go_wp2_with fail
  refine HH.out.mono ?_
  rintro e w1 ⟨rfl, hg⟩
  exact ⟨rfl, rfl, hg⟩
theorem value_outE {g : FuncId} {cap : Array Value} {q : Nat} {w : World} {c a : Int} (hc : ¬ c = 0) (hcf : ∀ w : World, (callFunc g cap).run Tryd.prog w = .ok (.enter g cap) w) (hq : q < w.heap.size)
    (h : ∀ W, Below w.heap.size w W → w.heap.size + 5 ≤ W.heap.size → Calls Tryd.prog g cap W fun e w' => e = .panicked (stopP c a) ∧ W.grownBy w' (some q)) :
    Calls Tryd.prog 78 #[.func (.func 79) #[] #[.pointer (some ⟨w.heap.size, 0, none⟩), .pointer (some ⟨w.heap.size + 3, 0, none⟩)]] (vWorldI g cap w) fun e w' => e = .returned (.agg #[.int .i64 c, .int .i64 a]) ∧
      w.grownBy w' (some q) ∧ w.heap.size + 4 ≤ w'.heap.size ∧ Whole w' (w.heap.size + 3) 25 #[.int .u8 0, .int .u64 0, .int .u64 0, .slice none 0 0] ∧ Whole w' (w.heap.size + 1) 25 #[.int .u8 0, .int .u64 0, .int .u64 0, .slice none 0 0] ∧ Whole w' (w.heap.size + 2) 35 #[.int .i64 0, .int .i64 0] := by
  obtain ⟨hz, b1, b2, b3, b4, hbe⟩ := vWorld_factsI g cap w
  have b5 := Whole.made (vWorldI g cap w) 35 #[.int .i64 0, .int .i64 0]
  have hbe2 : Below w.heap.size w ((vWorldI g cap w).alloc (.cells #[.int .i64 0, .int .i64 0] 35)) := hbe.alloc (by omega) _
  have hcl := valClosE (b4 := w.heap.size + 3) hcf (b1.alloc (.cells #[.int .i64 0, .int .i64 0] 35)) (h _ hbe2 (by rw [size_box]; omega))
  refine (out_any _ _ c a (vWorldI g cap w) (fun w1 => ((vWorldI g cap w).alloc (.cells #[.int .i64 0, .int .i64 0] 35)).grownBy w1 (some q)) (cfVI _) (hcl.mono ?_) (fun w1 hg => b5.grown hg (by simp only [ne_eq, Option.some.injEq]; omega))).mono ?_
  · rintro e w' ⟨rfl, hg⟩
    exact ⟨.inr ⟨hc, rfl⟩, hg⟩
  · rintro e w' ⟨rfl, w1, hg1, hg2⟩
    have z1 := hg1.size
    have z2 := hg2.size
    rw [size_box] at z1
    rw [hz] at hg2
    exact ⟨rfl, gb_before (gb_trans (gb_of_below (some q) hbe2) hg1) hg2 (fun g e => .inr (by injection e with e; omega)), by omega,
      ((b4.alloc _).grown hg1 (by simp only [ne_eq, Option.some.injEq]; omega)).grown hg2 (by simp only [ne_eq, Option.some.injEq]; omega),
      ((b2.alloc _).grown hg1 (by simp only [ne_eq, Option.some.injEq]; omega)).grown hg2 (by simp only [ne_eq, Option.some.injEq]; omega),
      ((b3.alloc _).grown hg1 (by simp only [ne_eq, Option.some.injEq]; omega)).grown hg2 (by simp only [ne_eq, Option.some.injEq]; omega)⟩
set_option maxHeartbeats 4000000 in
/-- Value of a function that aborts. -/
theorem valueE_any {g : FuncId} {cap : Array Value} {q : Nat} {w : World} {c a : Int} (hc : ¬ c = 0) (hcf : ∀ w : World, (callFunc g cap).run Tryd.prog w = .ok (.enter g cap) w) (hq : q < w.heap.size)
    (h : ∀ W, Below w.heap.size w W → w.heap.size + 5 ≤ W.heap.size → Calls Tryd.prog g cap W fun e w' => e = .panicked (stopP c a) ∧ W.grownBy w' (some q)) :
    Calls Tryd.prog 30 #[.func (.func g) #[] cap] w fun e w' => e = .returned (.tuple #[.agg #[.int .u8 0, .int .u64 0, .int .u64 0, .slice none 0 0], .agg #[.int .i64 c, .int .i64 a]]) ∧ w.grownBy w' (some q) := by
  have hv := value_outE hc hcf hq h
  unfold vWorldI at hv
  have HV := Lib.hid hv
  have dc : (c == 0) = false := by simpa using hc
  have hmf : ∀ (fn : Fn) (first cap : Array Value) (w : World), (Instr.makeFunc fn first cap).run Tryd.prog w = .ok (.func fn first cap) w := fun _ _ _ _ => rfl
  clear h hv hcf hc
  go_enter Tryd.func30, Tryd.ntmps30
  go_wp2_with (go_at_call 78; go_must (refine HV.out.mono ?_; rintro e w2 ⟨rfl, hg, hz, hv, hr1, hr2⟩; have HL := Lib.hid (show w.grownBy w2 (some q) ∧ w.heap.size + 4 ≤ w2.heap.size ∧ Whole w2 (w.heap.size + 3) 25 #[.int .u8 0, .int .u64 0, .int .u64 0, .slice none 0 0] ∧ Whole w2 (w.heap.size + 1) 25 #[.int .u8 0, .int .u64 0, .int .u64 0, .slice none 0 0] ∧ Whole w2 (w.heap.size + 2) 35 #[.int .i64 0, .int .i64 0] from ⟨hg, hz, hv, hr1, hr2⟩); clear hg hz hv hr1 hr2))
  have hb : w.heap.size + 1 + 1 = w.heap.size + 2 := by omega
  rw [hb]
  generalize hW : w2.alloc (.cells #[.int .i64 c, .int .i64 a] 35) = W at *
  have hz2 := HL.out.2.1
  have k3 : Whole W (w.heap.size + 3) 25 #[.int .u8 0, .int .u64 0, .int .u64 0, .slice none 0 0] := by rw [← hW]; exact HL.out.2.2.1.alloc _
  have k1 : Whole W (w.heap.size + 1) 25 #[.int .u8 0, .int .u64 0, .int .u64 0, .slice none 0 0] := by rw [← hW]; exact HL.out.2.2.2.1.alloc _
  have k2 : Whole W (w.heap.size + 2) 35 #[.int .i64 0, .int .i64 0] := by rw [← hW]; exact HL.out.2.2.2.2.alloc _
  have k5 : Whole W w2.heap.size 35 #[.int .i64 c, .int .i64 a] := by rw [← hW]; exact Whole.made _ _ _
  have hgW : w.grownBy W (some q) := by rw [← hW]; exact gb_alloc HL.out.1 _
  clear hW
  have K1 := Lib.hid k1
  have K2 := Lib.hid k2
  have KG := Lib.hid hgW
  have v0 := k3.cell 0
  have v1 := k3.cell 1
  have v2 := k3.cell 2
  have v3 := k3.cell 3
  have s0 := k5.cell 0
  have s1 := k5.cell 1
  have m0 := k1.cell 0
  have m1 := k1.cell 1
  have m2 := k1.cell 2
  have m3 := k1.cell 3
  have f0 := k1.frozen 0
  have f1 := k1.frozen 1
  have f2 := k1.frozen 2
  have f3 := k1.frozen 3
  have n0 := k2.cell 0
  have n1 := k2.cell 1
  have g0 := k2.frozen 0
  have g1 := k2.frozen 1
  have e1 : ¬ w2.heap.size = w.heap.size + 1 := by omega
  have e2 : ¬ w2.heap.size = w.heap.size + 2 := by omega
  simp only [List.getElem?_toArray, List.getElem?_cons_zero, List.getElem?_cons_succ] at v0 v1 v2 v3 s0 s1 m0 m1 m2 m3 n0 n1
  clear k1 k2 k3 k5 hgW
  go_region
  all_goals
    go_wp2
    obtain ⟨p1, j1⟩ := put4 (u0 := .int .u8 0) (u1 := .int .u64 0) (u2 := .int .u64 0) (u3 := .slice none 0 0) K1.out
    obtain ⟨p2, j2⟩ := put2 (u0 := .int .i64 c) (u1 := .int .i64 a) (K2.out.grown j1 (by simp only [ne_eq, Option.some.injEq]; omega))
    have p3 := p1.grown j2 (by simp only [ne_eq, Option.some.injEq]; omega)
    have q0 := p3.cell 0
    have q1 := p3.cell 1
    have q2 := p3.cell 2
    have q3 := p3.cell 3
    have q8 := p2.cell 0
    have q9 := p2.cell 1
    simp only [List.getElem?_toArray, List.getElem?_cons_zero, List.getElem?_cons_succ] at q0 q1 q2 q3 q8 q9
    clear v0 v1 v2 v3 s0 s1 m0 m1 m2 m3 f0 f1 f2 f3 n0 n1 g0 g1
    have hfin := gb_before (gb_before KG.out j1 (fun g e => .inr (by injection e with e; omega))) j2 (fun g e => .inr (by injection e with e; omega))
    refine bodyPost_ret (v := .tuple #[.agg #[.int .u8 0, .int .u64 0, .int .u64 0, .slice none 0 0], .agg #[.int .i64 c, .int .i64 a]]) (by simp [results, Tryd.results30, go_sem, q0, q1, q2, q3, q8, q9]) rfl ⟨rfl, ?_⟩
    first | exact hfin | exact gb_drew hfin | exact ⟨hfin.os, hfin.tape, hfin.output, hfin.size, hfin.block⟩

/-- bytes.Clone of any bytes. -/
theorem clone_any {w : World} {A : Option Addr} {cap : Nat} {l : List UInt8} (hl : Lies w w.heap.size A (cells (nums l))) (hA : A = none → cap = 0) (hc : l.length ≤ 1000000) :
    Calls Tryd.prog 77 #[.slice A l.length cap] w (BytesL l w) := by
  by_cases h0 : 0 < l.length
  · exact clone_ok hl h0 hc
  · have hl0 : l = [] := List.eq_nil_of_length_eq_zero (by omega)
    subst hl0
    cases A with
    | none =>
      obtain rfl := hA rfl
      show Calls Tryd.prog 77 #[.slice none 0 0] w (BytesL [] w)
      have hnil : ∀ w : World, (binOp BinOp.eql 26 (.slice none 0 0) (.slice none 0 0)).run Tryd.prog w = .ok (.bool true) w := fun w => by
        simp only [binOp]
        simp [run_equal_slice_nil w 26 5 _ _ _ Tryd.underlying26]
      clear hl h0 hc hA
      go_enter Tryd.func77, Tryd.ntmps77
      go_wp2
      go_ret
      exact ⟨_, rfl, Row.nil _ _, Below.refl _ _⟩
    | some ad =>
      show Calls Tryd.prog 77 #[.slice (some ad) 0 cap] w (BytesL [] w)
      have hnil : ∀ w : World, (binOp BinOp.eql 26 (.slice (some ad) 0 cap) (.slice none 0 0)).run Tryd.prog w = .ok (.bool false) w := fun w => by
        simp only [binOp]
        simp [run_equal_slice_nil w 26 5 _ _ _ Tryd.underlying26]
      have R0 := Lib.hid (Row.made w [] w.heap.size w.heap.size rfl (Nat.le_refl _) (by simp))
      have HL := Lib.hid (hl.below (below_box w (.cells #[] 5)) (Nat.le_refl _))
      clear hl h0 hc hA
      go_enter Tryd.func77, Tryd.ntmps77
      go_wp2_with (at_builtin; (refine row_any rfl _ _ rfl w.heap.size _ [] rfl R0.out (some ad) 0 cap _ [] rfl rfl HL.out (fun e => by cases e) (by simp) (by simp) ?_; intro v2 w2 hr2 hb2; have HR2 := Lib.hid hr2; have HB2 := Lib.hid hb2; clear hr2 hb2))
      go_ret
      exact ⟨_, rfl, HR2.out, (below_box w _).trans HB2.out⟩
theorem over_any {w : World} {A : Option Addr} {cap : Nat} {l : List UInt8} (hl : Lies w w.heap.size A (cells (nums l))) (hA : A = none → cap = 0) (hc : l.length ≤ 1000000) :
    Calls Tryd.prog 29 #[.slice A l.length cap] w (Overs l w) := by
  have HC := Lib.hid (clone_any (cap := cap) hl hA hc)
  clear hl hA
  go_enter Tryd.func29, Tryd.ntmps29
  go_wp2_with (go_at_call 77; go_must ((with_reducible refine HC.out.mono ?_); intro e w1 h; obtain ⟨v, rfl, hr, hb⟩ := h; obtain ⟨A1, c1, rfl, h1, h2, hl1, _⟩ := lies_own hr; have HL := Lib.hid hl1; have H1 := Lib.hid h1; have H2 := Lib.hid h2; have HB := Lib.hid hb; clear hl1 hr h1 h2 hb))
  go_ret
  exact ⟨w1.heap.size, rfl, HB.out.size, ⟨A1, c1, Whole.made _ _ _, HL.out.below (below_box w1 _) (Nat.le_refl _), H1.out, H2.out, by simp⟩, HB.out.trans ((below_box w1 _).mono HB.out.size)⟩
end Go.Proofs.YtebgmfjgapmpfaaDoor

/- types.Cut, Zero; creelref04.Cut; types.EncodeGlobal, creelref04.EncodeGlobal. -/
namespace Go.Proofs.YtebgmfjgapmpfaaDoor
set_option linter.unusedVariables false
set_option maxRecDepth 100000
open Go.RowKit

/-- A value, by its type and number. -/
abbrev vv (t n : Int) : Value := .agg #[.int .u8 t, .int .u64 n]
def cutZ (t n : Int) : Int := if t = 127 then n % 4294967296 else n
def rightB (t n : Int) : Bool := decide (valueZ t = 0) && decide (cutZ t n = n)
theorem and_low (n : Int) (h0 : 0 ≤ n) (h1 : n ≤ 18446744073709551615) : bits .and .u64 n 4294967295 = n % 4294967296 := by
  have e1 : (BitVec.ofInt 64 n).toNat = n.toNat := by
    rw [BitVec.toNat_ofInt]
    show (n % 18446744073709551616).toNat = _
    rw [Int.emod_eq_of_lt h0 (by omega)]
  have e2 : (BitVec.ofInt 64 4294967295).toNat = 2 ^ 32 - 1 := by decide
  show IntKind.u64.wrap ((BitVec.ofInt 64 n &&& BitVec.ofInt 64 4294967295).toNat : Nat) = _
  rw [BitVec.toNat_and, e1, e2, Nat.and_two_pow_sub_one_eq_mod]
  simp only [IntKind.wrap, IntKind.bits, IntKind.signed]
  simp
  omega

theorem below_two (w : World) (o o' : Obj) : Below w.heap.size w ((w.alloc o).alloc o') := (below_box w o).alloc (by simp) _
theorem refCut_any (t n : Int) (w : World) (n0 : 0 ≤ n) (n1 : n ≤ 18446744073709551615) : Calls Tryd.prog 40 #[vv t n] w fun e w' => e = .returned (vv t (cutZ t n)) ∧ Below w.heap.size w w' := by
  by_cases h : t = 127
  · subst h
    have he : cutZ 127 n = n % 4294967296 := rfl
    rw [he]
    clear he
    go_enter Tryd.func40, Tryd.ntmps40
    go_wp2
    exact bodyPost_ret (v := vv 127 (n % 4294967296)) (by simp [results, Tryd.results40, go_sem]) rfl ⟨rfl, below_two _ _ _⟩
  · have hb : (t == 127) = false := by simpa using h
    have he : cutZ t n = n := by unfold cutZ; rw [if_neg h]
    rw [he]
    clear he h
    go_enter Tryd.func40, Tryd.ntmps40
    go_wp2
    exact bodyPost_ret (v := vv t n) (by simp [results, Tryd.results40, go_sem]) rfl ⟨rfl, below_two _ _ _⟩
/-- A global's type, by value. -/
abbrev gv (t : Int) (m : Bool) : Value := .agg #[.int .u8 t, .bool m]
theorem two_of {w W W' : World} {u v : Value} {t : TypeId} (h : Boxed w (.cells #[u, v] t) W ∧ W.cell? ⟨w.heap.size, 0, none⟩ = some u ∧ W.cell? ⟨w.heap.size, 1, none⟩ = some v) (hb : Below W.heap.size W W') :
    Boxed w (.cells #[u, v] t) W' ∧ W'.cell? ⟨w.heap.size, 0, none⟩ = some u ∧ W'.cell? ⟨w.heap.size, 1, none⟩ = some v := ⟨h.1.on hb, (h.1.on hb).row 0, (h.1.on hb).row 1⟩
theorem encG_new (w : World) (t : Int) (m : Bool) (h0 : 0 ≤ t) (h1 : t ≤ 255) (B H : Nat) (hH : w.heap.size = H) (hb : B ≤ H) :
    Row (w.alloc (.cells #[.int .u8 t, .int .u8 (if m then 1 else 0)] 5)) B (.slice (some ⟨H, 0, none⟩) 2 2) (encG t m) := by
  have h := Row.made w (encG t m) B H hH hb (by simp [encG])
  rw [nums_encG t m h0 h1] at h
  exact h
set_option maxHeartbeats 1000000 in
theorem encG_any (t : Int) (m : Bool) (w : World) (h0 : 0 ≤ t) (h1 : t ≤ 255) : Calls Tryd.prog 87 #[gv t m] w (BytesL (encG t m) w) := by
  have FL := Lib.hid (fun w => flag_any m w)
  obtain ⟨f, hf⟩ : ∃ f : Int, f = if m then 1 else 0 := ⟨_, rfl⟩
  have RA := Lib.hid (fun w' B H hH hb => encG_new w' t m h0 h1 B H hH hb)
  rw [← hf] at RA FL
  clear hf
  go_enter Tryd.func87, Tryd.ntmps87
  go_wp2
  go_region_held3 (fun W => Boxed w (.cells #[.int .u8 t, .bool m] 68) W ∧ W.cell? ⟨w.heap.size, 0, none⟩ = some (.int .u8 t) ∧ W.cell? ⟨w.heap.size, 1, none⟩ = some (.bool m))
    (first | assumption | (exact ⟨Boxed.start _ _, (Boxed.start _ _).row 0, (Boxed.start _ _).row 1⟩) | (exact two_of (by assumption) (below_box _ _)))
    (first | (go_at_call 133; ((with_reducible refine (FL.out _).mono ?_); rintro e w' ⟨rfl, rfl⟩)))
  go_wp2
  go_ret
  exact ⟨_, rfl, Row.drew (RA.out (w.alloc _) w.heap.size (w.heap.size + 1) (by simp) (by omega)), (below_two _ _ _).drew⟩
theorem encG_str (w : World) (t : Int) (m : Bool) (h0 : 0 ≤ t) (h1 : t ≤ 255) (H : Nat) (hH : w.heap.size = H) :
    ∀ dst, Tryd.prog.underlying dst = some .string → (convert 26 dst (.slice (some ⟨H, 0, none⟩) 2 2)).run Tryd.prog (w.alloc (.cells #[.int .u8 t, .int .u8 (if m then 1 else 0)] 5)) = .ok (.string (S (encG t m))) (w.alloc (.cells #[.int .u8 t, .int .u8 (if m then 1 else 0)] 5)) := by
  obtain ⟨A, c, e, hs⟩ := (encG_new w t m h0 h1 H H hH (Nat.le_refl _)).str
  injection e with e1 e2 e3
  subst e1; subst e3
  exact hs
theorem refEncG_any (t : Int) (m : Bool) (w : World) (h0 : 0 ≤ t) (h1 : t ≤ 255) : Calls Tryd.prog 91 #[gv t m] w fun e w' => e = .returned (.string (S (encG t m))) ∧ Below w.heap.size w w' := by
  cases m
  · have hs := encG_str (w.alloc (.cells #[.int .u8 t, .bool false] 68)) t false h0 h1 (w.heap.size + 1) (by simp)
    simp only [Bool.false_eq_true, if_false] at hs
    go_enter Tryd.func91, Tryd.ntmps91
    go_wp2
    go_ret
    exact ⟨rfl, below_two _ _ _⟩
  · have hs := encG_str (w.alloc (.cells #[.int .u8 t, .bool true] 68)) t true h0 h1 (w.heap.size + 1) (by simp)
    simp only [if_true] at hs
    go_enter Tryd.func91, Tryd.ntmps91
    go_wp2
    go_ret
    exact ⟨rfl, below_two _ _ _⟩
end Go.Proofs.YtebgmfjgapmpfaaDoor

/- The walk of ConstsReads. -/
namespace Go.Proofs.YtebgmfjgapmpfaaDoor
open Go.RowKit
set_option linter.unusedVariables false
set_option maxRecDepth 100000

theorem cfR (cap : Array Value) (w : World) : (callFunc 31 cap).run Tryd.prog w = .ok (.enter 31 cap) w := by kernel_rfl
/-- The law's closure, of bytes that begin with a constant expression. -/
theorem rclos_ok {w : World} {b7 p : Nat} {l : List UInt8} {k k' : Nat} {i : I} (hr : readR l k = .ok i k') (hs : Sc w p l k) (hT : TbP p w) (h7 : Whole w b7 51 #[.pointer (some ⟨p, 0, none⟩)]) :
    Calls Tryd.prog 31 #[.pointer (some ⟨b7, 0, none⟩)] w fun e w' => ∃ x : I × Option Addr × Nat, e = .returned (insV x.1 x.2.1 x.2.2) ∧ KeepI p l i k' w.heap.size x w' ∧ w.grownBy w' (some p) := by
  have hlt := hs.lt
  have hG := cread_any (hs.alloc (.cells #[.int .u8 0, .int .u64 0, .int .u64 0, .slice none 0 0] 25)) (hT.below (below_box w _) (Nat.le_of_lt hlt))
  rw [hr] at hG
  have HG := Lib.hid (show Calls Tryd.prog 32 #[.pointer (some ⟨p, 0, none⟩)] (w.alloc (.cells #[.int .u8 0, .int .u64 0, .int .u64 0, .slice none 0 0] 25)) (Gets p l i k' (w.alloc (.cells #[.int .u8 0, .int .u64 0, .int .u64 0, .slice none 0 0] 25))) from hG)
  have HWM := Lib.hid (Whole.made w 25 #[.int .u8 0, .int .u64 0, .int .u64 0, .slice none 0 0])
  have c7 := (h7.alloc (.cells #[.int .u8 0, .int .u64 0, .int .u64 0, .slice none 0 0] 25)).cell 0
  simp only [List.getElem?_toArray, List.getElem?_cons_zero] at c7
  clear hr hs hT hG h7
  go_enter Tryd.func31, Tryd.ntmps31
  go_wp2_with (go_at_call 32; go_must ((with_reducible refine HG.out.mono ?_); intro e w2 h; obtain ⟨A, c, rfl, hla, hfar, hs, hg, _⟩ := h; have HR := Lib.hid (HWM.out.grown hg (by simp only [ne_eq, Option.some.injEq]; omega)); have r0 := HR.out.cell 0; have r1 := HR.out.cell 1; have r2 := HR.out.cell 2; have r3 := HR.out.cell 3; have z0 := HR.out.frozen 0; have z1 := HR.out.frozen 1; have z2 := HR.out.frozen 2; have z3 := HR.out.frozen 3; simp only [List.getElem?_toArray, List.getElem?_cons_zero, List.getElem?_cons_succ] at r0 r1 r2 r3; have HS := Lib.hid hs; have HG2 := Lib.hid hg; have HLA := Lib.hid hla; have HF := Lib.hid hfar; clear hs hg hla hfar))
  obtain ⟨q, g⟩ := put4 (u0 := .int .u8 i.op.toNat) (u1 := .int .u64 i.a) (u2 := .int .u64 i.b) (u3 := .slice A i.l.length c) HR.out
  have q0 := q.cell 0
  have q1 := q.cell 1
  have q2 := q.cell 2
  have q3 := q.cell 3
  simp only [List.getElem?_toArray, List.getElem?_cons_zero, List.getElem?_cons_succ] at q0 q1 q2 q3
  refine bodyPost_ret (v := insV i A c) (by simp [results, Tryd.results31, go_sem, q0, q1, q2, q3]) rfl ⟨(i, A, c), rfl, ⟨rfl, ?_, ?_, ?_⟩, ?_⟩
  · exact HS.out.grown g (by simp only [ne_eq, Option.some.injEq]; omega) (fun g e => by injection e with e; omega)
  · exact HLA.out.keep g (fun a ha => by have := HF.out a ha; rw [size_box] at this; omega)
  · intro a ha
    have := HF.out a ha
    rw [size_box] at this
    omega
  · exact gb_before (gb_trans (gb_alloc (gb_refl w _) _) HG2.out) g (fun g e => .inr (by injection e with e; omega))
/-- .. of other bytes. -/
theorem rclos_err {w : World} {b7 p : Nat} {l : List UInt8} {k : Nat} {c a : Int} (hr : readR l k = .err c a) (hs : Sc w p l k) (hT : TbP p w) (h7 : Whole w b7 51 #[.pointer (some ⟨p, 0, none⟩)]) :
    Calls Tryd.prog 31 #[.pointer (some ⟨b7, 0, none⟩)] w fun e w' => e = .panicked (stopP c a) ∧ w.grownBy w' (some p) := by
  have hlt := hs.lt
  have hG := cread_any (hs.alloc (.cells #[.int .u8 0, .int .u64 0, .int .u64 0, .slice none 0 0] 25)) (hT.below (below_box w _) (Nat.le_of_lt hlt))
  rw [hr] at hG
  have HG := Lib.hid (show Calls Tryd.prog 32 #[.pointer (some ⟨p, 0, none⟩)] (w.alloc (.cells #[.int .u8 0, .int .u64 0, .int .u64 0, .slice none 0 0] 25)) (fun e w' => e = .panicked (stopP c a) ∧ (w.alloc (.cells #[.int .u8 0, .int .u64 0, .int .u64 0, .slice none 0 0] 25)).grownBy w' (some p)) from hG)
  have c7 := (h7.alloc (.cells #[.int .u8 0, .int .u64 0, .int .u64 0, .slice none 0 0] 25)).cell 0
  simp only [List.getElem?_toArray, List.getElem?_cons_zero] at c7
  clear hr hs hT hG h7
  go_enter Tryd.func31, Tryd.ntmps31
  go_wp2_with (go_at_call 32; go_must ((with_reducible refine HG.out.mono ?_); rintro e w2 ⟨rfl, hg⟩; have HG2 := Lib.hid hg; clear hg))
  exact ⟨rfl, rfl, gb_trans (gb_alloc (gb_refl w _) _) HG2.out⟩

/-- Both readers are laid: the scanner at p, the reference's at q, the scanner's variable behind it. -/
structure LR (w : World) (p q : Nat) (ms : List UInt8) (M : Option Addr) (cm : Nat) (W : World) : Prop where
  bel : Below w.heap.size w W
  tb : TbP p W
  sc : Sc W p ms 0
  rd : Whole W q 55 #[.slice M ms.length cm, .int .i64 0, .int .i64 0, .int .i64 0]
  vr : Whole W (q + 1) 51 #[.pointer (some ⟨p, 0, none⟩)]
  lo : w.heap.size ≤ p
  pq : p < q
  qz : q + 2 ≤ W.heap.size
theorem LR.of {w w1 w2 : World} {p : Nat} {ms : List UInt8} {M : Option Addr} {cm : Nat} (hT : Tabs w1) (hb1 : Below w.heap.size w w1) (hb2 : Below w1.heap.size w1 w2) (hp : w1.heap.size ≤ p) (hs : Sc w2 p ms 0) :
    LR w p w2.heap.size ms M cm ((w2.alloc (.cells #[.slice M ms.length cm, .int .i64 0, .int .i64 0, .int .i64 0] 55)).alloc (.cells #[.pointer (some ⟨p, 0, none⟩)] 51)) := by
  have hv := Whole.made (w2.alloc (.cells #[.slice M ms.length cm, .int .i64 0, .int .i64 0, .int .i64 0] 55)) 51 #[.pointer (some ⟨p, 0, none⟩)]
  rw [size_box] at hv
  have hz := hb1.size
  have hz2 := hb2.size
  have hb3 : Below w2.heap.size w2 ((w2.alloc (.cells #[.slice M ms.length cm, .int .i64 0, .int .i64 0, .int .i64 0] 55)).alloc (.cells #[.pointer (some ⟨p, 0, none⟩)] 51)) := below_two w2 _ _
  exact ⟨hb1.trans ((hb2.mono hz).trans (hb3.mono (by omega))), ⟨w1, hT, hp, hb2.trans (hb3.mono hz2)⟩, (hs.alloc _).alloc _, (Whole.made w2 _ _).alloc _, hv, by omega, hs.lt, by simp⟩
theorem valueR_err {w : World} {p q : Nat} {ms : List UInt8} {M : Option Addr} {cm : Nat} {W : World} {c a : Int} (h : LR w p q ms M cm W) (hc : ¬ c = 0) (hr : readR ms 0 = .err c a) :
    Calls Tryd.prog 30 #[.func (.func 31) #[] #[.pointer (some ⟨q + 1, 0, none⟩)]] W fun e w' => e = .returned (.tuple #[.agg #[.int .u8 0, .int .u64 0, .int .u64 0, .slice none 0 0], .agg #[.int .i64 c, .int .i64 a]]) ∧ W.grownBy w' (some p) := by
  have h1 := h.pq
  have h2 := h.qz
  exact valueE_any hc (cfR _) (by omega) (fun W' hW hz => rclos_err hr (h.sc.below hW) (h.tb.below hW (by omega)) (h.vr.below hW))
theorem valueR_ok {w : World} {p q : Nat} {ms : List UInt8} {M : Option Addr} {cm : Nat} {W : World} {i : I} {k' : Nat} (h : LR w p q ms M cm W) (hr : readR ms 0 = .ok i k') :
    Calls Tryd.prog 30 #[.func (.func 31) #[] #[.pointer (some ⟨q + 1, 0, none⟩)]] W fun e w' => ∃ x : I × Option Addr × Nat, e = .returned (.tuple #[insV x.1 x.2.1 x.2.2, .agg #[.int .i64 0, .int .i64 0]]) ∧ KeepI p ms i k' (W.heap.size + 5) x w' ∧ W.grownBy w' (some p) := by
  have h1 := h.pq
  have h2 := h.qz
  refine valueI_ok (cfR _) (by omega) (fun x W1 W2 b g1 g2 hx hg => hx.on hg (by omega) (by omega)) (fun W' hW hz => ?_)
  refine (rclos_ok hr (h.sc.below hW) (h.tb.below hW (by omega)) (h.vr.below hW)).mono ?_
  rintro e w' ⟨x, rfl, hx, hg⟩
  obtain ⟨g1, g2, g3, g4⟩ := hx
  exact ⟨x, rfl, ⟨g1, g2, g3, fun a ha => by have := g4 a ha; omega⟩, hg⟩
/-- The reference's reader, once the program's has read. -/
theorem LR.ref {w : World} {p q : Nat} {ms : List UInt8} {M : Option Addr} {cm : Nat} {W W4 : World} (h : LR w p q ms M cm W) (hg : W.grownBy W4 (some p)) (hm : Lies w w.heap.size M (cells (nums ms))) (hc : ms.length ≤ cm) (hx : cm ≤ maxLen) (o o' : Obj) :
    Rs ((W4.alloc o).alloc o') q ms (.at 0) ∧ Below w.heap.size w ((W4.alloc o).alloc o') := by
  have h1 := h.pq
  have h2 := h.lo
  have hz := hg.size
  have h3 := h.qz
  have hb4 : Below w.heap.size w W4 := Below.grown h.bel hg h.bel.size (fun g e => by injection e with e; omega)
  have hz0 := hb4.size
  have hb5 : Below w.heap.size w ((W4.alloc o).alloc o') := hb4.trans ((below_two W4 o o').mono hz0)
  have hr := ((h.rd.grown hg (by simp only [ne_eq, Option.some.injEq]; omega)).alloc o).alloc o'
  exact ⟨⟨M, cm, 0, hr, (hm.below hb5 (Nat.le_refl _)).more (by omega), hc, hx, rfl, Nat.zero_le _⟩, hb5⟩

/-- At the law's end, of bytes that are no constant expression: the Stop at b6, the instruction at b5, the reference's reader at q. -/
structure EndE (w : World) (b5 b6 q : Nat) (c a : Int) (u0 u1 : Value) (W : World) : Prop where
  bel : Below w.heap.size w W
  x : Whole W b5 25 #[.int .u8 0, .int .u64 0, .int .u64 0, .slice none 0 0]
  s : Whole W b6 35 #[.int .i64 c, .int .i64 a]
  r : Whole W q 55 #[u0, u1, .int .i64 c, .int .i64 a]
theorem EndE.on {w : World} {b5 b6 q : Nat} {c a : Int} {u0 u1 : Value} {W W' : World} (h : EndE w b5 b6 q c a u0 u1 W) (hb : Below W.heap.size W W') : EndE w b5 b6 q c a u0 u1 W' :=
  ⟨h.bel.trans (hb.mono h.bel.size), h.x.below hb, h.s.below hb, h.r.below hb⟩
abbrev CellsE (b5 b6 q : Nat) (c a : Int) (W : World) : Prop :=
  (W.cell? ⟨b5, 0, none⟩ = some (.int .u8 0) ∧ W.cell? ⟨b5, 1, none⟩ = some (.int .u64 0) ∧ W.cell? ⟨b5, 2, none⟩ = some (.int .u64 0) ∧ W.cell? ⟨b5, 3, none⟩ = some (.slice none 0 0)) ∧
  (W.cell? ⟨b6, 0, none⟩ = some (.int .i64 c) ∧ W.cell? ⟨b6, 1, none⟩ = some (.int .i64 a)) ∧ W.cell? ⟨q, 2, none⟩ = some (.int .i64 c) ∧ W.cell? ⟨q, 3, none⟩ = some (.int .i64 a)
theorem EndE.cells {w : World} {b5 b6 q : Nat} {c a : Int} {u0 u1 : Value} {W : World} (h : EndE w b5 b6 q c a u0 u1 W) : EndE w b5 b6 q c a u0 u1 W ∧ CellsE b5 b6 q c a W :=
  ⟨h, ⟨h.x.cell 0, h.x.cell 1, h.x.cell 2, h.x.cell 3⟩, ⟨h.s.cell 0, h.s.cell 1⟩, h.r.cell 2, h.r.cell 3⟩
/-- .. of bytes that begin with one. -/
structure EndO (w : World) (b5 b6 b8 p q : Nat) (ms : List UInt8) (i : I) (A2 : Option Addr) (c2 : Nat) (A3 : Option Addr) (c3 k : Nat) (W : World) : Prop where
  bel : Below w.heap.size w W
  x : Whole W b5 25 (insC i A2 c2)
  s : Whole W b6 35 #[.int .i64 0, .int .i64 0]
  y : Whole W b8 25 (insC i A3 c3)
  v : Whole W (q + 1) 51 #[.pointer (some ⟨p, 0, none⟩)]
  sc : Sc W p ms k
  r : Rs W q ms (.at k)
  l2 : LiesL W A2 i.l
  l3 : LiesL W A3 i.l
theorem EndO.on {w : World} {b5 b6 b8 p q : Nat} {ms : List UInt8} {i : I} {A2 : Option Addr} {c2 : Nat} {A3 : Option Addr} {c3 k : Nat} {W W' : World} (h : EndO w b5 b6 b8 p q ms i A2 c2 A3 c3 k W) (hb : Below W.heap.size W W') : EndO w b5 b6 b8 p q ms i A2 c2 A3 c3 k W' :=
  ⟨h.bel.trans (hb.mono h.bel.size), h.x.below hb, h.s.below hb, h.y.below hb, h.v.below hb, h.sc.below hb, h.r.below hb, h.l2.below hb, h.l3.below hb⟩
abbrev CellsO (b5 b6 b8 p q : Nat) (i : I) (A2 : Option Addr) (c2 : Nat) (A3 : Option Addr) (c3 k : Nat) (W : World) : Prop :=
  (W.cell? ⟨b5, 0, none⟩ = some (.int .u8 i.op.toNat) ∧ W.cell? ⟨b5, 1, none⟩ = some (.int .u64 i.a) ∧ W.cell? ⟨b5, 2, none⟩ = some (.int .u64 i.b) ∧ W.cell? ⟨b5, 3, none⟩ = some (.slice A2 i.l.length c2)) ∧
  (W.cell? ⟨b8, 0, none⟩ = some (.int .u8 i.op.toNat) ∧ W.cell? ⟨b8, 1, none⟩ = some (.int .u64 i.a) ∧ W.cell? ⟨b8, 2, none⟩ = some (.int .u64 i.b) ∧ W.cell? ⟨b8, 3, none⟩ = some (.slice A3 i.l.length c3)) ∧
  W.cell? ⟨b6, 0, none⟩ = some (.int .i64 0) ∧ W.cell? ⟨q + 1, 0, none⟩ = some (.pointer (some ⟨p, 0, none⟩)) ∧ W.cell? ⟨q, 1, none⟩ = some (.int .i64 k)
theorem EndO.cells {w : World} {b5 b6 b8 p q : Nat} {ms : List UInt8} {i : I} {A2 : Option Addr} {c2 : Nat} {A3 : Option Addr} {c3 k : Nat} {W : World} (h : EndO w b5 b6 b8 p q ms i A2 c2 A3 c3 k W) : EndO w b5 b6 b8 p q ms i A2 c2 A3 c3 k W ∧ CellsO b5 b6 b8 p q i A2 c2 A3 c3 k W :=
  ⟨h, ⟨h.x.cell 0, h.x.cell 1, h.x.cell 2, h.x.cell 3⟩, ⟨h.y.cell 0, h.y.cell 1, h.y.cell 2, h.y.cell 3⟩, h.s.cell 0, h.v.cell 0, at_at h.r⟩
theorem opR_nz {l : List UInt8} {k : Nat} {c a : Int} (h : opR l k = .err c a) : c ≠ 0 := by
  unfold opR at h
  cases hr : byteR l k with
  | err e b => rw [hr, Res.bind_err] at h; injection h with h1 h2; have := byteR_nz hr; omega
  | ok d p =>
    rw [hr, Res.bind_ok] at h
    by_cases hd : checkR d.toNat = 0
    · rw [if_pos hd] at h; cases h
    · rw [if_neg hd] at h; injection h with h1 h2; omega
theorem blockR_nz {l : List UInt8} {k : Nat} {c a : Int} (h : blockR l k = .err c a) : c ≠ 0 := by
  unfold blockR at h
  cases hr : byteR l k with
  | err e b => rw [hr, Res.bind_err] at h; injection h with h1 h2; have := byteR_nz hr; omega
  | ok d p =>
    rw [hr, Res.bind_ok] at h
    by_cases hd : blockZ d.toNat = 0
    · rw [if_pos hd] at h; cases h
    · rw [if_neg hd] at h; injection h with h1 h2; omega
theorem idxK_nz {l : List UInt8} {c a : Int} : ∀ (n q : Nat) (acc : List Int), idxK l n q acc = .err c a → c ≠ 0
  | 0, q, acc, h => by cases h
  | n + 1, q, acc, h => by
    unfold idxK at h
    cases hr : indexR l q with
    | err e b => rw [hr, Res.bind_err] at h; injection h with h1 h2; have := indexR_nz hr; omega
    | ok x p => rw [hr, Res.bind_ok] at h; exact idxK_nz n p _ h
theorem labelsR_nz {l : List UInt8} {k : Nat} {c a : Int} (h : labelsR l k = .err c a) : c ≠ 0 := by
  unfold labelsR at h
  cases hr : countR l k with
  | err e b =>
    rw [hr, Res.bind_err] at h
    injection h with h1 h2
    unfold countR atMostR at hr
    cases hi : indexR l k with
    | err e2 b2 => rw [hi, Res.bind_err] at hr; injection hr with h3 h4; have := indexR_nz hi; omega
    | ok v p =>
      rw [hi, Res.bind_ok] at hr
      by_cases hv : v ≤ 10000
      · rw [if_pos hv] at hr; cases hr
      · rw [if_neg hv] at hr; injection hr with h3 h4; omega
  | ok v p => rw [hr, Res.bind_ok] at h; exact idxK_nz _ _ _ h
theorem bind_nz {α β : Type} {r : Res α} {f : α → Nat → Res β} {c a : Int} (h : r.bind f = .err c a) (h1 : ∀ c a, r = .err c a → c ≠ 0) (h2 : ∀ v k c a, f v k = .err c a → c ≠ 0) : c ≠ 0 := by
  cases r with
  | err e b => rw [Res.bind_err] at h; injection h with g1 g2; subst g1; exact h1 _ _ rfl
  | ok v k => rw [Res.bind_ok] at h; exact h2 v k c a h
theorem bodyR_nz {l : List UInt8} {m : Nat} {o : UInt8} {k : Nat} {c a : Int} (h : bodyR m o l k = .err c a) : c ≠ 0 := by
  have no : ∀ {i : I} {k : Nat} {c a : Int}, Res.ok i k = .err c a → c ≠ 0 := fun h => by cases h
  unfold bodyR at h
  repeat' split at h
  · cases h
  · exact bind_nz h (fun _ _ => blockR_nz) (fun _ _ _ _ h => no h)
  · exact bind_nz h (fun _ _ => labelsR_nz) (fun _ _ _ _ h => bind_nz h (fun _ _ => indexR_nz) (fun _ _ _ _ h => no h))
  · exact bind_nz h (fun _ _ => indexR_nz) (fun _ _ _ _ h => bind_nz h (fun _ _ => noughtR_nz) (fun _ _ _ _ h => no h))
  · exact bind_nz h (fun _ _ => indexR_nz) (fun _ _ _ _ h => bind_nz h (fun _ _ => indexR_nz) (fun _ _ _ _ h => no h))
  · exact bind_nz h (fun _ _ => noughtR_nz) (fun _ _ _ _ h => no h)
  · exact bind_nz h (fun _ _ => intR_nz) (fun _ _ _ _ h => no h)
  · exact bind_nz h (fun _ _ => intR_nz) (fun _ _ _ _ h => no h)
  · exact bind_nz h (fun _ _ => indexR_nz) (fun _ _ _ _ h => no h)
theorem readR_err {l : List UInt8} {k : Nat} {c a : Int} (h : readR l k = .err c a) : ¬ c = 0 := by
  unfold readR at h
  refine bind_nz h (fun c a h => ?_) (fun i k1 c a h => ?_)
  · unfold getR at h
    exact bind_nz h (fun _ _ => opR_nz) (fun _ _ _ _ => bodyR_nz)
  · by_cases hz : crightZ i = 0
    · rw [if_pos hz] at h
      refine bind_nz h (fun _ _ => byteR_nz) (fun d k2 c a h => ?_)
      by_cases hd : d = 11
      · rw [if_pos hd] at h; cases h
      · rw [if_neg hd] at h; injection h with h1 h2; omega
    · rw [if_neg hz] at h; injection h with h1 h2; omega
theorem readR_len {l : List UInt8} {k : Nat} {i : I} {k' : Nat} (h : readR l k = .ok i k') : i.l.length ≤ 10000 := by
  unfold readR at h
  cases hr : getR l k with
  | err c a => rw [hr, Res.bind_err] at h; cases h
  | ok j p =>
    rw [hr, Res.bind_ok] at h
    by_cases hz : crightZ j = 0
    · rw [if_pos hz] at h
      cases hb : byteR l p with
      | err c a => rw [hb, Res.bind_err] at h; cases h
      | ok d p2 =>
        rw [hb, Res.bind_ok] at h
        by_cases hd : d = 11
        · rw [if_pos hd] at h
          injection h with h1 h2
          subst h1
          exact (getR_ok hr).2.1
        · rw [if_neg hd] at h; cases h
    · rw [if_neg hz] at h; cases h
theorem zero_same (w : World) : Calls Tryd.prog 15 #[.agg #[.int .u8 0, .int .u64 0, .int .u64 0, .slice none 0 0], .agg #[.int .u8 0, .int .u64 0, .int .u64 0, .slice none 0 0]] w (BoolPost true w) := by
  have := refSame_any (w := w) (A := none) (B := none) (c := 0) (d := 0) (i := ⟨0, 0, 0, []⟩) (k := ⟨0, 0, 0, []⟩) (fun j v hv => by simp [cells32] at hv) (fun j v hv => by simp [cells32] at hv) (by simp) (by simp)
  rw [show sameZ ⟨0, 0, 0, []⟩ ⟨0, 0, 0, []⟩ = true by unfold sameZ; simp] at this
  exact this
theorem EndE.of {w : World} {p q : Nat} {ms : List UInt8} {M : Option Addr} {cm : Nat} {W W4 w6 : World} {c a : Int} (h : LR w p q ms M cm W) (hg : W.grownBy W4 (some p))
    (hb5 : Below w.heap.size w ((W4.alloc (.cells #[.int .u8 0, .int .u64 0, .int .u64 0, .slice none 0 0] 25)).alloc (.cells #[.int .i64 c, .int .i64 a] 35)))
    (hr : Rs w6 q ms (.bad c a)) (hg6 : ((W4.alloc (.cells #[.int .u8 0, .int .u64 0, .int .u64 0, .slice none 0 0] 25)).alloc (.cells #[.int .i64 c, .int .i64 a] 35)).grownBy w6 (some q)) (o : Obj) :
    ∃ u0 u1, EndE w W4.heap.size (W4.heap.size + 1) q c a u0 u1 (w6.alloc o) := by
  have h1 := h.pq
  have h2 := h.lo
  have h3 := h.qz
  have hz := hg.size
  have hz5 := hb5.size
  obtain ⟨A, cap, j, hw, _, _, _, _⟩ := hr.badly
  have hs := Whole.made (W4.alloc (.cells #[.int .u8 0, .int .u64 0, .int .u64 0, .slice none 0 0] 25)) 35 #[.int .i64 c, .int .i64 a]
  rw [size_box] at hs
  have hb6 : Below w.heap.size w w6 := Below.grown hb5 hg6 hz5 (fun g e => by injection e with e; omega)
  exact ⟨_, _, hb6.alloc hb6.size _, (((Whole.made W4 _ _).alloc _).grown hg6 (by simp only [ne_eq, Option.some.injEq]; omega)).alloc _, (hs.grown hg6 (by simp only [ne_eq, Option.some.injEq]; omega)).alloc _, hw.alloc _⟩
theorem EndO.of {w : World} {p q : Nat} {ms : List UInt8} {M : Option Addr} {cm : Nat} {W W4 w6 : World} {i : I} {A2 A3 : Option Addr} {c2 c3 k : Nat} (h : LR w p q ms M cm W) (hg : W.grownBy W4 (some p))
    (hb5 : Below w.heap.size w ((W4.alloc (.cells (insC i A2 c2) 25)).alloc (.cells #[.int .i64 0, .int .i64 0] 35)))
    (hs4 : Sc W4 p ms k) (hl2 : Lies W4 W4.heap.size A2 (cells32 i.l)) (hf2 : ∀ a, A2 = some a → W.heap.size + 5 ≤ a.block)
    (hr : Rs w6 q ms (.at k)) (hl3 : Lies w6 w6.heap.size A3 (cells32 i.l)) (hg6 : ((W4.alloc (.cells (insC i A2 c2) 25)).alloc (.cells #[.int .i64 0, .int .i64 0] 35)).grownBy w6 (some q)) :
    EndO w W4.heap.size (W4.heap.size + 1) w6.heap.size p q ms i A2 c2 A3 c3 k (w6.alloc (.cells (insC i A3 c3) 25)) := by
  have h1 := h.pq
  have h2 := h.lo
  have h3 := h.qz
  have hz := hg.size
  have hz5 := hb5.size
  have hs := Whole.made (W4.alloc (.cells (insC i A2 c2) 25)) 35 #[.int .i64 0, .int .i64 0]
  rw [size_box] at hs
  have hb6 : Below w.heap.size w w6 := Below.grown hb5 hg6 hz5 (fun g e => by injection e with e; omega)
  have hl2' := (lies_box (lies_box hl2 (.cells (insC i A2 c2) 25)) (.cells #[.int .i64 0, .int .i64 0] 35)).keep hg6 (fun a ha => by have := hf2 a ha; omega)
  exact ⟨hb6.alloc hb6.size _, (((Whole.made W4 _ _).alloc _).grown hg6 (by simp only [ne_eq, Option.some.injEq]; omega)).alloc _, (hs.grown hg6 (by simp only [ne_eq, Option.some.injEq]; omega)).alloc _, Whole.made _ _ _,
    ((((h.vr.grown hg (by simp only [ne_eq, Option.some.injEq]; omega)).alloc _).alloc _).grown hg6 (by simp only [ne_eq, Option.some.injEq]; omega)).alloc _,
    (((hs4.alloc _).alloc _).grown hg6 (by simp only [ne_eq, Option.some.injEq]; omega) (fun g e => by injection e with e; omega)).alloc _, hr.alloc _, lies_box hl2' _, lies_box hl3 _⟩

set_option maxHeartbeats 4000000 in
theorem lawCR {w : World} {M : Option Addr} {cm : Nat} {ms : List UInt8} (hT : Tabs w) (hm : Lies w w.heap.size M (cells (nums ms))) (hM : M = none → cm = 0) (hc : ms.length ≤ cm) (hx : cm ≤ maxLen) :
    Calls Tryd.prog 6 #[.slice M ms.length cm] w (BoolPost true w) := by
  have nm : (ms.length : Int) ≤ 9223372036854775807 := by unfold maxLen at hx; omega
  have HAW := Lib.hid (cawake_any w hT)
  by_cases g1 : 300 < ms.length
  · have t1 : decide (300 < (ms.length : Int)) = true := decide_eq_true (by omega)
    clear hm hT hx
    go_enter Tryd.func6, Tryd.ntmps6
    go_wp2_with (go_at_call 23; go_must ((with_reducible refine HAW.out.mono ?_); rintro e w1 ⟨rfl, hb⟩; have HB1 := Lib.hid hb; clear hb))
    go_ret
    exact ⟨rfl, HB1.out⟩
  have t1 : decide (300 < (ms.length : Int)) = false := decide_eq_false (by omega)
  have hmf : ∀ (fn : Fn) (first cap : Array Value) (w : World), (Instr.makeFunc fn first cap).run Tryd.prog w = .ok (.func fn first cap) w := fun _ _ _ _ => rfl
  have HO := Lib.hid (fun W (hb : Below w.heap.size w W) => over_any (cap := cm) ((hm.below hb (Nat.le_refl _)).more hb.size) hM (by omega))
  have HT := Lib.hid hT
  have HM := Lib.hid hm
  have HC := Lib.hid hc
  have HX := Lib.hid hx
  clear hT hm hM hc hx g1
  cases hr : readR ms 0 with
  | err c a =>
    have HRF := Lib.hid (fun W q (h : Rs W q ms (.at 0)) => show Calls Tryd.prog 33 #[.pointer (some ⟨q, 0, none⟩)] W fun e w' => e = .returned (.agg #[.int .u8 0, .int .u64 0, .int .u64 0, .slice none 0 0]) ∧ Rs w' q ms (.bad c a) ∧ W.grownBy w' (some q) from by have := refC_any h; rw [hr] at this; exact this)
    have hne : ¬ c = 0 := readR_err hr
    have dw : (c != 0) = true := by simpa using hne
    have HNE := Lib.hid hne
    have HRR := Lib.hid hr
    clear hr hne
    go_enter Tryd.func6, Tryd.ntmps6
    go_wp2_with (first
      | (go_at_call 23; go_must ((with_reducible refine HAW.out.mono ?_); rintro e w1 ⟨rfl, hb⟩; have HB1 := Lib.hid hb; clear hb))
      | (go_at_call 29; go_must ((with_reducible refine (HO.out _ HB1.out).mono ?_); intro e w2 hq; obtain ⟨p, rfl, hp, hs, hb⟩ := hq; have H3 := Lib.hid (LR.of (M := M) (cm := cm) (HT.out.below HB1.out) HB1.out hb hp hs); clear hp hs hb))
      | (go_at_call 30; go_must ((with_reducible refine (valueR_err H3.out HNE.out HRR.out).mono ?_); rintro e w4 ⟨rfl, hg⟩; have H4 := Lib.hid hg; have H5 := Lib.hid (H3.out.ref hg HM.out HC.out HX.out (.cells #[.int .u8 0, .int .u64 0, .int .u64 0, .slice none 0 0] 25) (.cells #[.int .i64 c, .int .i64 a] 35)); clear hg))
      | (go_at_call 33; go_must ((with_reducible refine (HRF.out _ _ H5.out.1).mono ?_); rintro e w6 ⟨rfl, hs, hg⟩; have hend := EndE.of H3.out H4.out H5.out.2 hs hg (.cells #[.int .u8 0, .int .u64 0, .int .u64 0, .slice none 0 0] 25); obtain ⟨u0, u1, hend⟩ := hend; have HE := Lib.hid hend; obtain ⟨-, ⟨x0, x1, x2, x3⟩, ⟨s0, s1⟩, r2, r3⟩ := hend.cells; clear hs hg hend)))
    refine wp_region_noPanic ?_
    refine wp_region_held_drew (S := fun W => EndE w w4.heap.size (w4.heap.size + 1) w2.heap.size c a u0 u1 W ∧ CellsE w4.heap.size (w4.heap.size + 1) w2.heap.size c a W) (by kernel_rfl) (EndE.cells (HE.out.on (Below.refl _ _).drew)) (fun hHeld => ?_)
    (refine heldTake (i := 0) (oi := { dst := some 30, op := Op.fieldAddr 35 (Operand.tmp 6) 0, type := 0, pos := "law.go:50", after := #[], guard := none }) (v := ?_) rfl (by kernel_rfl) (by kernel_rfl) (by kernel_rfl) (by assumption) ?_ ?_; rotate_left; focus (refine .inl ⟨by kernel_rfl, ?_⟩; intro w hSw; (try dsimp only at hSw); go_simp; (try with_reducible rfl)); (try simp only [Act.put, List.setIfInBounds_toArray, List.set_cons_zero, List.set_cons_succ]))
    (refine heldTake (i := 1) (oi := { dst := some 31, op := Op.load 29 (Operand.tmp 30), type := 29, pos := "law.go:50", after := #[{ on := 0, ground := Ground.data }], guard := none }) (v := ?_) rfl (by kernel_rfl) (by kernel_rfl) (by kernel_rfl) (by assumption) ?_ ?_; rotate_left; focus (refine .inl ⟨by kernel_rfl, ?_⟩; intro w hSw; (try dsimp only at hSw); go_simp; (try with_reducible rfl)); (try simp only [Act.put, List.setIfInBounds_toArray, List.set_cons_zero, List.set_cons_succ]))
    (refine heldTake (i := 2) (oi := { dst := some 32, op := Op.move (Operand.tmp 4), type := 53, pos := "law.go:50", after := #[], guard := none }) (v := ?_) rfl (by kernel_rfl) (by kernel_rfl) (by kernel_rfl) (by assumption) ?_ ?_; rotate_left; focus (refine .inl ⟨by kernel_rfl, ?_⟩; intro w hSw; (try dsimp only at hSw); go_simp; (try with_reducible rfl)); (try simp only [Act.put, List.setIfInBounds_toArray, List.set_cons_zero, List.set_cons_succ]))
    (refine heldTake (i := 3) (oi := { dst := some 33, op := Op.nilCheck (Operand.tmp 32), type := 0, pos := "law.go:50", after := #[{ on := 2, ground := Ground.data }], guard := none }) (v := ?_) rfl (by kernel_rfl) (by kernel_rfl) (by kernel_rfl) (by assumption) ?_ ?_; rotate_left; focus (refine .inl ⟨by kernel_rfl, ?_⟩; intro w hSw; (try dsimp only at hSw); go_simp; (try with_reducible rfl)); (try simp only [Act.put, List.setIfInBounds_toArray, List.set_cons_zero, List.set_cons_succ]))
    (refine heldTake (i := 4) (oi := { dst := some 34, op := Op.fieldAddr 55 (Operand.tmp 33) 2, type := 0, pos := "law.go:50", after := #[{ on := 3, ground := Ground.data }], guard := none }) (v := ?_) rfl (by kernel_rfl) (by kernel_rfl) (by kernel_rfl) (by assumption) ?_ ?_; rotate_left; focus (refine .inl ⟨by kernel_rfl, ?_⟩; intro w hSw; (try dsimp only at hSw); go_simp; (try with_reducible rfl)); (try simp only [Act.put, List.setIfInBounds_toArray, List.set_cons_zero, List.set_cons_succ]))
    (refine heldTake (i := 5) (oi := { dst := some 35, op := Op.load 3 (Operand.tmp 34), type := 3, pos := "law.go:50", after := #[{ on := 4, ground := Ground.data }], guard := none }) (v := ?_) rfl (by kernel_rfl) (by kernel_rfl) (by kernel_rfl) (by assumption) ?_ ?_; rotate_left; focus (refine .inl ⟨by kernel_rfl, ?_⟩; intro w hSw; (try dsimp only at hSw); go_simp; (try with_reducible rfl)); (try simp only [Act.put, List.setIfInBounds_toArray, List.set_cons_zero, List.set_cons_succ]))
    (refine heldTake (i := 6) (oi := { dst := some 36, op := Op.binOp BinOp.eql 3 (Operand.tmp 31) (Operand.tmp 35) 3, type := 4, pos := "law.go:50", after := #[{ on := 1, ground := Ground.data }, { on := 5, ground := Ground.data }], guard := none }) (v := ?_) rfl (by kernel_rfl) (by kernel_rfl) (by kernel_rfl) (by assumption) ?_ ?_; rotate_left; focus (refine .inl ⟨by kernel_rfl, ?_⟩; intro w hSw; (try dsimp only at hSw); go_simp; (try with_reducible rfl)); (try simp only [Act.put, List.setIfInBounds_toArray, List.set_cons_zero, List.set_cons_succ]))
    (refine heldTake (i := 7) (oi := { dst := some 37, op := Op.move (Operand.tmp 36), type := 4, pos := "law.go:50", after := #[{ on := 6, ground := Ground.data }], guard := none }) (v := ?_) rfl (by kernel_rfl) (by kernel_rfl) (by kernel_rfl) (by assumption) ?_ ?_; rotate_left; focus (refine .inl ⟨by kernel_rfl, ?_⟩; intro w hSw; (try dsimp only at hSw); go_simp; (try with_reducible rfl)); (try simp only [Act.put, List.setIfInBounds_toArray, List.set_cons_zero, List.set_cons_succ]))
    (refine heldTake (i := 8) (oi := { dst := some 38, op := Op.fieldAddr 35 (Operand.tmp 6) 1, type := 0, pos := "law.go:50", after := #[{ on := 7, ground := Ground.guard }], guard := some (7, true) }) (v := ?_) rfl (by kernel_rfl) (by kernel_rfl) (by kernel_rfl) (by assumption) ?_ ?_; rotate_left; focus (refine .inl ⟨by kernel_rfl, ?_⟩; intro w hSw; (try dsimp only at hSw); go_simp; (try with_reducible rfl)); (try simp only [Act.put, List.setIfInBounds_toArray, List.set_cons_zero, List.set_cons_succ]))
    (refine heldTake (i := 9) (oi := { dst := some 39, op := Op.load 3 (Operand.tmp 38), type := 3, pos := "law.go:50", after := #[{ on := 8, ground := Ground.data }, { on := 7, ground := Ground.guard }], guard := some (7, true) }) (v := ?_) rfl (by kernel_rfl) (by kernel_rfl) (by kernel_rfl) (by assumption) ?_ ?_; rotate_left; focus (refine .inl ⟨by kernel_rfl, ?_⟩; intro w hSw; (try dsimp only at hSw); go_simp; (try with_reducible rfl)); (try simp only [Act.put, List.setIfInBounds_toArray, List.set_cons_zero, List.set_cons_succ]))
    (refine heldTake (i := 10) (oi := { dst := some 40, op := Op.move (Operand.tmp 4), type := 53, pos := "law.go:50", after := #[{ on := 7, ground := Ground.guard }], guard := some (7, true) }) (v := ?_) rfl (by kernel_rfl) (by kernel_rfl) (by kernel_rfl) (by assumption) ?_ ?_; rotate_left; focus (refine .inl ⟨by kernel_rfl, ?_⟩; intro w hSw; (try dsimp only at hSw); go_simp; (try with_reducible rfl)); (try simp only [Act.put, List.setIfInBounds_toArray, List.set_cons_zero, List.set_cons_succ]))
    (refine heldTake (i := 11) (oi := { dst := some 41, op := Op.nilCheck (Operand.tmp 40), type := 0, pos := "law.go:50", after := #[{ on := 10, ground := Ground.data }, { on := 7, ground := Ground.guard }], guard := some (7, true) }) (v := ?_) rfl (by kernel_rfl) (by kernel_rfl) (by kernel_rfl) (by assumption) ?_ ?_; rotate_left; focus (refine .inl ⟨by kernel_rfl, ?_⟩; intro w hSw; (try dsimp only at hSw); go_simp; (try with_reducible rfl)); (try simp only [Act.put, List.setIfInBounds_toArray, List.set_cons_zero, List.set_cons_succ]))
    (refine heldTake (i := 12) (oi := { dst := some 42, op := Op.fieldAddr 55 (Operand.tmp 41) 3, type := 0, pos := "law.go:50", after := #[{ on := 11, ground := Ground.data }, { on := 7, ground := Ground.guard }], guard := some (7, true) }) (v := ?_) rfl (by kernel_rfl) (by kernel_rfl) (by kernel_rfl) (by assumption) ?_ ?_; rotate_left; focus (refine .inl ⟨by kernel_rfl, ?_⟩; intro w hSw; (try dsimp only at hSw); go_simp; (try with_reducible rfl)); (try simp only [Act.put, List.setIfInBounds_toArray, List.set_cons_zero, List.set_cons_succ]))
    (refine heldTake (i := 13) (oi := { dst := some 43, op := Op.load 3 (Operand.tmp 42), type := 3, pos := "law.go:50", after := #[{ on := 12, ground := Ground.data }, { on := 7, ground := Ground.guard }], guard := some (7, true) }) (v := ?_) rfl (by kernel_rfl) (by kernel_rfl) (by kernel_rfl) (by assumption) ?_ ?_; rotate_left; focus (refine .inl ⟨by kernel_rfl, ?_⟩; intro w hSw; (try dsimp only at hSw); go_simp; (try with_reducible rfl)); (try simp only [Act.put, List.setIfInBounds_toArray, List.set_cons_zero, List.set_cons_succ]))
    (refine heldTake (i := 14) (oi := { dst := some 44, op := Op.binOp BinOp.eql 3 (Operand.tmp 39) (Operand.tmp 43) 3, type := 4, pos := "law.go:50", after := #[{ on := 9, ground := Ground.data }, { on := 13, ground := Ground.data }, { on := 7, ground := Ground.guard }], guard := some (7, true) }) (v := ?_) rfl (by kernel_rfl) (by kernel_rfl) (by kernel_rfl) (by assumption) ?_ ?_; rotate_left; focus (refine .inl ⟨by kernel_rfl, ?_⟩; intro w hSw; (try dsimp only at hSw); go_simp; (try with_reducible rfl)); (try simp only [Act.put, List.setIfInBounds_toArray, List.set_cons_zero, List.set_cons_succ]))
    (refine heldTake (i := 15) (oi := { dst := some 45, op := Op.pick (Operand.tmp 37) (Operand.tmp 44) (Operand.const (Value.bool false)), type := 4, pos := "law.go:50", after := #[{ on := 7, ground := Ground.data }, { on := 14, ground := Ground.data }], guard := none }) (v := ?_) rfl (by kernel_rfl) (by kernel_rfl) (by kernel_rfl) (by assumption) ?_ ?_; rotate_left; focus (refine .inl ⟨by kernel_rfl, ?_⟩; intro w hSw; (try dsimp only at hSw); go_simp; (try with_reducible rfl)); (try simp only [Act.put, List.setIfInBounds_toArray, List.set_cons_zero, List.set_cons_succ]))
    (refine heldTake (i := 16) (oi := { dst := some 46, op := Op.move (Operand.tmp 45), type := 4, pos := "law.go:50", after := #[{ on := 15, ground := Ground.data }, { on := 7, ground := Ground.chain }], guard := none }) (v := ?_) rfl (by kernel_rfl) (by kernel_rfl) (by kernel_rfl) (by assumption) ?_ ?_; rotate_left; focus (refine .inl ⟨by kernel_rfl, ?_⟩; intro w hSw; (try dsimp only at hSw); go_simp; (try with_reducible rfl)); (try simp only [Act.put, List.setIfInBounds_toArray, List.set_cons_zero, List.set_cons_succ]))
    (refine heldTake (i := 17) (oi := { dst := some 47, op := Op.load 25 (Operand.tmp 5), type := 25, pos := "law.go:50", after := #[{ on := 16, ground := Ground.guard }], guard := some (16, true) }) (v := ?_) rfl (by kernel_rfl) (by kernel_rfl) (by kernel_rfl) (by assumption) ?_ ?_; rotate_left; focus (refine .inl ⟨by kernel_rfl, ?_⟩; intro w hSw; (try dsimp only at hSw); go_simp; (try with_reducible rfl)); (try simp only [Act.put, List.setIfInBounds_toArray, List.set_cons_zero, List.set_cons_succ]))
    (refine heldTake (i := 18) (oi := { dst := some 48, op := Op.build 25 #[], type := 25, pos := "law.go:50", after := #[{ on := 16, ground := Ground.guard }], guard := some (16, true) }) (v := ?_) rfl (by kernel_rfl) (by kernel_rfl) (by kernel_rfl) (by assumption) ?_ ?_; rotate_left; focus (refine .inl ⟨by kernel_rfl, ?_⟩; intro w hSw; (try dsimp only at hSw); go_simp; (try with_reducible rfl)); (try simp only [Act.put, List.setIfInBounds_toArray, List.set_cons_zero, List.set_cons_succ]))
    refine wpAnyH_ready (rs := [19]) (by kernel_rfl) (by simp) ?_
    refine AllReadyH.cons (o := { dst := some 49, op := Op.call { callee := Callee.value (Operand.func 15), args := #[Operand.tmp 47, Operand.tmp 48], argTypes := #[25, 25] }, type := 4, pos := "law.go:50", after := #[{ on := 17, ground := Ground.data }, { on := 18, ground := Ground.data }, { on := 16, ground := Ground.chain }, { on := 16, ground := Ground.guard }], guard := some (16, true) }) rfl (fun K hK => ?_) AllReadyH.nil
    go_simp
    (go_at_call 15; (with_reducible refine (zero_same _).mono ?_); rintro e w8 ⟨rfl, hb⟩; have hk8 := EndE.cells (EndE.on (And.left hHeld) hb); clear hb)
    refine hK.out _ _ hk8 (fun hHeld19 => ?_)
    clear hK K hHeld
    (try simp only [Act.put, List.setIfInBounds_toArray, List.set_cons_zero, List.set_cons_succ])
    (refine heldTake (i := 20) (oi := { dst := some 50, op := Op.pick (Operand.tmp 46) (Operand.tmp 49) (Operand.const (Value.bool false)), type := 4, pos := "law.go:50", after := #[{ on := 16, ground := Ground.data }, { on := 19, ground := Ground.data }], guard := none }) (v := ?_) rfl (by kernel_rfl) (by kernel_rfl) (by kernel_rfl) (by assumption) ?_ ?_; rotate_left; focus (refine .inl ⟨by kernel_rfl, ?_⟩; intro w hSw; (try dsimp only at hSw); go_simp; (try with_reducible rfl)); (try simp only [Act.put, List.setIfInBounds_toArray, List.set_cons_zero, List.set_cons_succ]))
    (refine heldTake (i := 21) (oi := { dst := some 2, op := Op.assign (Operand.tmp 50), type := 4, pos := "law.go:50", after := #[{ on := 20, ground := Ground.data }, { on := 19, ground := Ground.chain }, { on := 0, ground := Ground.phase }, { on := 1, ground := Ground.phase }, { on := 2, ground := Ground.phase }, { on := 3, ground := Ground.phase }, { on := 4, ground := Ground.phase }, { on := 5, ground := Ground.phase }, { on := 6, ground := Ground.phase }, { on := 7, ground := Ground.phase }, { on := 8, ground := Ground.phase }, { on := 9, ground := Ground.phase }, { on := 10, ground := Ground.phase }, { on := 11, ground := Ground.phase }, { on := 12, ground := Ground.phase }, { on := 13, ground := Ground.phase }, { on := 14, ground := Ground.phase }, { on := 15, ground := Ground.phase }, { on := 16, ground := Ground.phase }, { on := 17, ground := Ground.phase }, { on := 18, ground := Ground.phase }, { on := 19, ground := Ground.phase }, { on := 20, ground := Ground.phase }], guard := none }) (v := ?_) rfl (by kernel_rfl) (by kernel_rfl) (by kernel_rfl) (by assumption) ?_ ?_; rotate_left; focus (refine .inl ⟨by kernel_rfl, ?_⟩; intro w hSw; (try dsimp only at hSw); go_simp; (try with_reducible rfl)); (try simp only [Act.put, List.setIfInBounds_toArray, List.set_cons_zero, List.set_cons_succ]))
    refine wpAnyH_done (by kernel_rfl) ?_ _
    refine NoPanic.normal ?_
    have hLast := hHeld19
    clear hHeld19
    go_wp2
    go_ret
    exact ⟨rfl, (And.left hLast).bel⟩
  | ok i k =>
    have HRF := Lib.hid (fun W q (h : Rs W q ms (.at 0)) => show Calls Tryd.prog 33 #[.pointer (some ⟨q, 0, none⟩)] W fun e w' => ∃ A c, e = .returned (insV i A c) ∧ Lies w' w'.heap.size A (cells32 i.l) ∧ (∀ a, A = some a → W.heap.size ≤ a.block) ∧ Rs w' q ms (.at k) ∧ W.grownBy w' (some q) from by have := refC_any h; rw [hr] at this; exact this)
    have hl10 := readR_len hr
    have HSM := Lib.hid (fun W (A2 A3 : Option Addr) (c2 c3 : Nat) (h1 : LiesL W A2 i.l) (h2 : LiesL W A3 i.l) => (by have := refSame_any (c := c2) (d := c3) (i := i) (k := i) h1 h2 (by omega) (by omega); rw [show sameZ i i = true by unfold sameZ; simp] at this; exact this))
    have HRR := Lib.hid hr
    clear hr hl10
    go_enter Tryd.func6, Tryd.ntmps6
    go_wp2_with (first
      | (go_at_call 23; go_must ((with_reducible refine HAW.out.mono ?_); rintro e w1 ⟨rfl, hb⟩; have HB1 := Lib.hid hb; clear hb))
      | (go_at_call 29; go_must ((with_reducible refine (HO.out _ HB1.out).mono ?_); intro e w2 hq; obtain ⟨p, rfl, hp, hs, hb⟩ := hq; have H3 := Lib.hid (LR.of (M := M) (cm := cm) (HT.out.below HB1.out) HB1.out hb hp hs); clear hp hs hb))
      | (go_at_call 30; go_must ((with_reducible refine (valueR_ok H3.out HRR.out).mono ?_); rintro e w4 ⟨⟨i2, A2, c2⟩, rfl, hk, hg⟩; obtain rfl : i2 = i := hk.1; have H4 := Lib.hid hg; have HK := Lib.hid hk.2; have H5 := Lib.hid (H3.out.ref hg HM.out HC.out HX.out (.cells (insC i2 A2 c2) 25) (.cells #[.int .i64 0, .int .i64 0] 35)); clear hg hk))
      | (go_at_call 33; go_must ((with_reducible refine (HRF.out _ _ H5.out.1).mono ?_); rintro e w6 ⟨A3, c3, rfl, hla, hfar, hs, hg⟩; have hend := EndO.of (c3 := c3) H3.out H4.out H5.out.2 HK.out.1 HK.out.2.1 HK.out.2.2 hs hla hg; have HE := Lib.hid hend; have x2 := why_at hend.r; clear hs hg hend hla hfar)))
    refine wp_region_noPanic ?_
    refine wp_region_held_drew (S := fun W => EndO w w4.heap.size (w4.heap.size + 1) w6.heap.size p w2.heap.size ms i2 A2 c2 A3 c3 k W ∧ CellsO w4.heap.size (w4.heap.size + 1) w6.heap.size p w2.heap.size i2 A2 c2 A3 c3 k W) (by kernel_rfl) (EndO.cells (HE.out.on (Below.refl _ _).drew)) (fun hHeld => ?_)
    (refine heldTake (i := 0) (oi := { dst := some 51, op := Op.fieldAddr 35 (Operand.tmp 6) 0, type := 0, pos := "law.go:52", after := #[], guard := none }) (v := ?_) rfl (by kernel_rfl) (by kernel_rfl) (by kernel_rfl) (by assumption) ?_ ?_; rotate_left; focus (refine .inl ⟨by kernel_rfl, ?_⟩; intro w hSw; (try dsimp only at hSw); go_simp; (try with_reducible rfl)); (try simp only [Act.put, List.setIfInBounds_toArray, List.set_cons_zero, List.set_cons_succ]))
    (refine heldTake (i := 1) (oi := { dst := some 52, op := Op.load 29 (Operand.tmp 51), type := 29, pos := "law.go:52", after := #[{ on := 0, ground := Ground.data }], guard := none }) (v := ?_) rfl (by kernel_rfl) (by kernel_rfl) (by kernel_rfl) (by assumption) ?_ ?_; rotate_left; focus (refine .inl ⟨by kernel_rfl, ?_⟩; intro w hSw; (try dsimp only at hSw); go_simp; (try with_reducible rfl)); (try simp only [Act.put, List.setIfInBounds_toArray, List.set_cons_zero, List.set_cons_succ]))
    (refine heldTake (i := 2) (oi := { dst := some 53, op := Op.binOp BinOp.eql 29 (Operand.tmp 52) (Operand.const (Value.int IntKind.i64 0)) 29, type := 4, pos := "law.go:52", after := #[{ on := 1, ground := Ground.data }], guard := none }) (v := ?_) rfl (by kernel_rfl) (by kernel_rfl) (by kernel_rfl) (by assumption) ?_ ?_; rotate_left; focus (refine .inl ⟨by kernel_rfl, ?_⟩; intro w hSw; (try dsimp only at hSw); go_simp; (try with_reducible rfl)); (try simp only [Act.put, List.setIfInBounds_toArray, List.set_cons_zero, List.set_cons_succ]))
    (refine heldTake (i := 3) (oi := { dst := some 54, op := Op.move (Operand.tmp 53), type := 4, pos := "law.go:52", after := #[{ on := 2, ground := Ground.data }], guard := none }) (v := ?_) rfl (by kernel_rfl) (by kernel_rfl) (by kernel_rfl) (by assumption) ?_ ?_; rotate_left; focus (refine .inl ⟨by kernel_rfl, ?_⟩; intro w hSw; (try dsimp only at hSw); go_simp; (try with_reducible rfl)); (try simp only [Act.put, List.setIfInBounds_toArray, List.set_cons_zero, List.set_cons_succ]))
    (refine heldTake (i := 4) (oi := { dst := some 55, op := Op.load 25 (Operand.tmp 5), type := 25, pos := "law.go:52", after := #[{ on := 3, ground := Ground.guard }], guard := some (3, true) }) (v := ?_) rfl (by kernel_rfl) (by kernel_rfl) (by kernel_rfl) (by assumption) ?_ ?_; rotate_left; focus (refine .inl ⟨by kernel_rfl, ?_⟩; intro w hSw; (try dsimp only at hSw); go_simp; (try with_reducible rfl)); (try simp only [Act.put, List.setIfInBounds_toArray, List.set_cons_zero, List.set_cons_succ]))
    (refine heldTake (i := 5) (oi := { dst := some 56, op := Op.load 25 (Operand.tmp 7), type := 25, pos := "law.go:52", after := #[{ on := 3, ground := Ground.guard }], guard := some (3, true) }) (v := ?_) rfl (by kernel_rfl) (by kernel_rfl) (by kernel_rfl) (by assumption) ?_ ?_; rotate_left; focus (refine .inl ⟨by kernel_rfl, ?_⟩; intro w hSw; (try dsimp only at hSw); go_simp; (try with_reducible rfl)); (try simp only [Act.put, List.setIfInBounds_toArray, List.set_cons_zero, List.set_cons_succ]))
    refine wpAnyH_ready (rs := [6]) (by kernel_rfl) (by simp) ?_
    refine AllReadyH.cons (o := { dst := some 57, op := Op.call { callee := Callee.value (Operand.func 15), args := #[Operand.tmp 55, Operand.tmp 56], argTypes := #[25, 25] }, type := 4, pos := "law.go:52", after := #[{ on := 4, ground := Ground.data }, { on := 5, ground := Ground.data }, { on := 3, ground := Ground.chain }, { on := 3, ground := Ground.guard }], guard := some (3, true) }) rfl (fun K hK => ?_) AllReadyH.nil
    go_simp
    (go_at_call 15; (with_reducible refine (HSM.out _ _ _ _ _ (And.left hHeld).l2 (And.left hHeld).l3).mono ?_); rintro e w8 ⟨rfl, hb⟩; have hk8 := EndO.cells (EndO.on (And.left hHeld) hb); clear hb)
    refine hK.out _ _ hk8 (fun hHeld6 => ?_)
    clear hK K hHeld
    (try simp only [Act.put, List.setIfInBounds_toArray, List.set_cons_zero, List.set_cons_succ])
    (refine heldTake (i := 7) (oi := { dst := some 58, op := Op.pick (Operand.tmp 54) (Operand.tmp 57) (Operand.const (Value.bool false)), type := 4, pos := "law.go:52", after := #[{ on := 3, ground := Ground.data }, { on := 6, ground := Ground.data }], guard := none }) (v := ?_) rfl (by kernel_rfl) (by kernel_rfl) (by kernel_rfl) (by assumption) ?_ ?_; rotate_left; focus (refine .inl ⟨by kernel_rfl, ?_⟩; intro w hSw; (try dsimp only at hSw); go_simp; (try with_reducible rfl)); (try simp only [Act.put, List.setIfInBounds_toArray, List.set_cons_zero, List.set_cons_succ]))
    (refine heldTake (i := 8) (oi := { dst := some 59, op := Op.move (Operand.tmp 58), type := 4, pos := "law.go:52", after := #[{ on := 7, ground := Ground.data }, { on := 6, ground := Ground.chain }], guard := none }) (v := ?_) rfl (by kernel_rfl) (by kernel_rfl) (by kernel_rfl) (by assumption) ?_ ?_; rotate_left; focus (refine .inl ⟨by kernel_rfl, ?_⟩; intro w hSw; (try dsimp only at hSw); go_simp; (try with_reducible rfl)); (try simp only [Act.put, List.setIfInBounds_toArray, List.set_cons_zero, List.set_cons_succ]))
    (refine heldTake (i := 9) (oi := { dst := some 60, op := Op.load 51 (Operand.tmp 3), type := 51, pos := "law.go:52", after := #[{ on := 8, ground := Ground.guard }], guard := some (8, true) }) (v := ?_) rfl (by kernel_rfl) (by kernel_rfl) (by kernel_rfl) (by assumption) ?_ ?_; rotate_left; focus (refine .inl ⟨by kernel_rfl, ?_⟩; intro w hSw; (try dsimp only at hSw); go_simp; (try with_reducible rfl)); (try simp only [Act.put, List.setIfInBounds_toArray, List.set_cons_zero, List.set_cons_succ]))
    (refine heldTake (i := 11) (oi := { dst := some 62, op := Op.move (Operand.tmp 4), type := 53, pos := "law.go:52", after := #[{ on := 8, ground := Ground.guard }], guard := some (8, true) }) (v := ?_) rfl (by kernel_rfl) (by kernel_rfl) (by kernel_rfl) (by assumption) ?_ ?_; rotate_left; focus (refine .inl ⟨by kernel_rfl, ?_⟩; intro w hSw; (try dsimp only at hSw); go_simp; (try with_reducible rfl)); (try simp only [Act.put, List.setIfInBounds_toArray, List.set_cons_zero, List.set_cons_succ]))
    (refine heldTake (i := 12) (oi := { dst := some 63, op := Op.nilCheck (Operand.tmp 62), type := 0, pos := "law.go:52", after := #[{ on := 11, ground := Ground.data }, { on := 8, ground := Ground.guard }], guard := some (8, true) }) (v := ?_) rfl (by kernel_rfl) (by kernel_rfl) (by kernel_rfl) (by assumption) ?_ ?_; rotate_left; focus (refine .inl ⟨by kernel_rfl, ?_⟩; intro w hSw; (try dsimp only at hSw); go_simp; (try with_reducible rfl)); (try simp only [Act.put, List.setIfInBounds_toArray, List.set_cons_zero, List.set_cons_succ]))
    (refine heldTake (i := 13) (oi := { dst := some 64, op := Op.fieldAddr 55 (Operand.tmp 63) 1, type := 0, pos := "law.go:52", after := #[{ on := 12, ground := Ground.data }, { on := 8, ground := Ground.guard }], guard := some (8, true) }) (v := ?_) rfl (by kernel_rfl) (by kernel_rfl) (by kernel_rfl) (by assumption) ?_ ?_; rotate_left; focus (refine .inl ⟨by kernel_rfl, ?_⟩; intro w hSw; (try dsimp only at hSw); go_simp; (try with_reducible rfl)); (try simp only [Act.put, List.setIfInBounds_toArray, List.set_cons_zero, List.set_cons_succ]))
    (refine heldTake (i := 14) (oi := { dst := some 65, op := Op.load 3 (Operand.tmp 64), type := 3, pos := "law.go:52", after := #[{ on := 13, ground := Ground.data }, { on := 8, ground := Ground.guard }], guard := some (8, true) }) (v := ?_) rfl (by kernel_rfl) (by kernel_rfl) (by kernel_rfl) (by assumption) ?_ ?_; rotate_left; focus (refine .inl ⟨by kernel_rfl, ?_⟩; intro w hSw; (try dsimp only at hSw); go_simp; (try with_reducible rfl)); (try simp only [Act.put, List.setIfInBounds_toArray, List.set_cons_zero, List.set_cons_succ]))
    refine wpAnyH_ready (rs := [10]) (by kernel_rfl) (by simp) ?_
    refine AllReadyH.cons (o := { dst := some 61, op := Op.call { callee := Callee.value (Operand.func 34), args := #[Operand.tmp 60], argTypes := #[51] }, type := 3, pos := "law.go:52", after := #[{ on := 9, ground := Ground.data }, { on := 8, ground := Ground.chain }, { on := 8, ground := Ground.guard }], guard := some (8, true) }) rfl (fun K hK => ?_) AllReadyH.nil
    go_simp
    (go_at_call 34; (with_reducible refine (at_any (And.left hHeld6).sc).mono ?_); rintro e w' ⟨rfl, rfl⟩)
    refine hK.out _ _ hHeld6 (fun hHeld10 => ?_)
    clear hK K hHeld6
    (try simp only [Act.put, List.setIfInBounds_toArray, List.set_cons_zero, List.set_cons_succ])
    (refine heldTake (i := 15) (oi := { dst := some 66, op := Op.binOp BinOp.eql 3 (Operand.tmp 61) (Operand.tmp 65) 3, type := 4, pos := "law.go:52", after := #[{ on := 10, ground := Ground.data }, { on := 14, ground := Ground.data }, { on := 8, ground := Ground.guard }], guard := some (8, true) }) (v := ?_) rfl (by kernel_rfl) (by kernel_rfl) (by kernel_rfl) (by assumption) ?_ ?_; rotate_left; focus (refine .inl ⟨by kernel_rfl, ?_⟩; intro w hSw; (try dsimp only at hSw); go_simp; (try with_reducible rfl)); (try simp only [Act.put, List.setIfInBounds_toArray, List.set_cons_zero, List.set_cons_succ]))
    (refine heldTake (i := 16) (oi := { dst := some 67, op := Op.pick (Operand.tmp 59) (Operand.tmp 66) (Operand.const (Value.bool false)), type := 4, pos := "law.go:52", after := #[{ on := 8, ground := Ground.data }, { on := 15, ground := Ground.data }], guard := none }) (v := ?_) rfl (by kernel_rfl) (by kernel_rfl) (by kernel_rfl) (by assumption) ?_ ?_; rotate_left; focus (refine .inl ⟨by kernel_rfl, ?_⟩; intro w hSw; (try dsimp only at hSw); go_simp; (try with_reducible rfl)); (try simp only [Act.put, List.setIfInBounds_toArray, List.set_cons_zero, List.set_cons_succ]))
    (refine heldTake (i := 17) (oi := { dst := some 2, op := Op.assign (Operand.tmp 67), type := 4, pos := "law.go:52", after := #[{ on := 16, ground := Ground.data }, { on := 10, ground := Ground.chain }, { on := 0, ground := Ground.phase }, { on := 1, ground := Ground.phase }, { on := 2, ground := Ground.phase }, { on := 3, ground := Ground.phase }, { on := 4, ground := Ground.phase }, { on := 5, ground := Ground.phase }, { on := 6, ground := Ground.phase }, { on := 7, ground := Ground.phase }, { on := 8, ground := Ground.phase }, { on := 9, ground := Ground.phase }, { on := 10, ground := Ground.phase }, { on := 11, ground := Ground.phase }, { on := 12, ground := Ground.phase }, { on := 13, ground := Ground.phase }, { on := 14, ground := Ground.phase }, { on := 15, ground := Ground.phase }, { on := 16, ground := Ground.phase }], guard := none }) (v := ?_) rfl (by kernel_rfl) (by kernel_rfl) (by kernel_rfl) (by assumption) ?_ ?_; rotate_left; focus (refine .inl ⟨by kernel_rfl, ?_⟩; intro w hSw; (try dsimp only at hSw); go_simp; (try with_reducible rfl)); (try simp only [Act.put, List.setIfInBounds_toArray, List.set_cons_zero, List.set_cons_succ]))
    refine wpAnyH_done (by kernel_rfl) ?_ _
    refine NoPanic.normal ?_
    have hLast := hHeld10
    clear hHeld10
    go_wp2
    go_ret
    exact ⟨rfl, (And.left hLast).bel⟩
theorem LR.ref1 {w : World} {p q : Nat} {ms : List UInt8} {M : Option Addr} {cm : Nat} {W W4 : World} (h : LR w p q ms M cm W) (hg : W.grownBy W4 (some p)) (hm : Lies w w.heap.size M (cells (nums ms))) (hc : ms.length ≤ cm) (hx : cm ≤ maxLen) (o : Obj) :
    Rs (W4.alloc o) q ms (.at 0) ∧ Below w.heap.size w (W4.alloc o) := by
  have h1 := h.pq
  have h2 := h.lo
  have hz := hg.size
  have h3 := h.qz
  have hb4 : Below w.heap.size w W4 := Below.grown h.bel hg h.bel.size (fun g e => by injection e with e; omega)
  have hz0 := hb4.size
  have hb5 : Below w.heap.size w (W4.alloc o) := hb4.trans ((below_box W4 o).mono hz0)
  have hr := (h.rd.grown hg (by simp only [ne_eq, Option.some.injEq]; omega)).alloc o
  exact ⟨⟨M, cm, 0, hr, (hm.below hb5 (Nat.le_refl _)).more (by omega), hc, hx, rfl, Nat.zero_le _⟩, hb5⟩
end Go.Proofs.YtebgmfjgapmpfaaDoor
