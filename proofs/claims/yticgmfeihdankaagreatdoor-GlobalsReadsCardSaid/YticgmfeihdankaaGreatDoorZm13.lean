/- consts.Read of any bytes. -/
import Derived.Test.YticgmfeihdankaaGreatDoorZm12
import Derived.Test.YticgmfeihdankaaGreatDoorZm09
import Derived.Test.YticgmfeihdankaaGreatDoorZm10
import Derived.Test.YticgmfeihdankaaGreatDoorZm11
import Derived.Test.YticgmfeihdankaaGreatDoorZm02
import Derived.OwnWalk
namespace Go.Proofs.YticgmfeihdankaaGreatDoor
open Go.RowKit
set_option linter.unusedVariables false
set_option maxRecDepth 100000

/-- How far Read has come: its result's block, the instruction's box, the scanner. -/
structure RdS (w : World) (p : Nat) (l : List UInt8) (H2 : Nat) (i : I) (A : Option Addr) (c k : Nat) (W : World) : Prop where
  res : Whole W w.heap.size 44 #[.int .u8 0, .int .u64 0, .int .u64 0, .slice none 0 0]
  box : Whole W H2 44 (insC i A c)
  sc : Sc W p l k
  gr : w.grownBy W (some p)
  hp : p < w.heap.size
  h2 : w.heap.size < H2
  tb : TbP p W
  ty : LabT W A i.l
  far : ∀ a, A = some a → w.heap.size ≤ a.block
section
variable {w : World} {p : Nat} {l : List UInt8} {H2 : Nat} {i : I} {A : Option Addr} {c k k' : Nat} {W W' : World}
theorem Sc.whole {w : World} {p : Nat} {l : List UInt8} {k : Nat} (h : Sc w p l k) : ∃ cs, Whole w p 57 cs := by
  obtain ⟨A, cap, h1, _⟩ := h
  exact ⟨_, h1⟩
theorem RdS.call (h : RdS w p l H2 i A c k W) (hs : Sc W' p l k') (hg : W.grownBy W' (some p)) : RdS w p l H2 i A c k' W' := by
  have a := h.hp
  have b := h.h2
  obtain ⟨cs, hw⟩ := h.sc.whole
  exact ⟨h.res.grown hg (by simp only [ne_eq, Option.some.injEq]; omega), h.box.grown hg (by simp only [ne_eq, Option.some.injEq]; omega), hs, gb_trans h.gr hg, h.hp, h.h2, h.tb.self hg, h.ty.keep hg (h.ty.apart hw (by decide)), h.far⟩
theorem RdS.below (h : RdS w p l H2 i A c k W) (hb : Below W.heap.size W W') : RdS w p l H2 i A c k W' := h.call (h.sc.below hb) (gb_of_below _ hb)
theorem RdS.fin (h : RdS w p l H2 i A c k W) (W4 : World) (hW : W4 = (((W.setCell ⟨w.heap.size, 0, none⟩ (.int .u8 i.op.toNat)).setCell ⟨w.heap.size, 1, none⟩ (.int .u64 i.a)).setCell ⟨w.heap.size, 2, none⟩ (.int .u64 i.b)).setCell ⟨w.heap.size, 3, none⟩ (.slice A i.l.length c)) :
    Whole W4 w.heap.size 44 (insC i A c) ∧ Gets p l i k w (.returned (insV i A c)) W4 := by
  subst hW
  have a := h.hp
  have b := h.h2
  have hg := gb_put (p := ⟨w.heap.size, 3, none⟩) (gb_put (p := ⟨w.heap.size, 2, none⟩) (gb_put (p := ⟨w.heap.size, 1, none⟩) (gb_put (p := ⟨w.heap.size, 0, none⟩) (gb_refl W (some w.heap.size)) (.inl rfl) (.int .u8 i.op.toNat)) (.inl rfl) (.int .u64 i.a)) (.inl rfl) (.int .u64 i.b)) (.inl rfl) (.slice A i.l.length c)
  have hty := h.ty.keep hg (h.ty.apart h.res (by decide))
  exact ⟨(((h.res.put 0 (.int .u8 i.op.toNat)).put 1 (.int .u64 i.a)).put 2 (.int .u64 i.b)).put 3 (.slice A i.l.length c),
    A, c, rfl, hty.lies, h.far, h.sc.grown hg (by simp only [ne_eq, Option.some.injEq]; omega) (fun g e => by injection e with e; omega), gb_before h.gr hg (fun g e => .inr (by injection e with e; omega)), hty⟩
end
set_option maxHeartbeats 4000000 in
theorem cread_any {w : World} {p : Nat} {l : List UInt8} {k : Nat} (hs : Sc w p l k) (hT : TbP p w) :
    Calls Tryz.prog 42 #[.pointer (some ⟨p, 0, none⟩)] w (GetsR p l (readR l k) w) := by
  have hlt := hs.lt
  have HZ : Hid (Sc (w.alloc (.cells #[.int .u8 0, .int .u64 0, .int .u64 0, .slice none 0 0] 44)) p l k ∧ TbP p (w.alloc (.cells #[.int .u8 0, .int .u64 0, .int .u64 0, .slice none 0 0] 44))) := ⟨hs.alloc _, hT.below (below_box w _) (by omega)⟩
  have hG := getA_any HZ.out.1 HZ.out.2
  have HAT := Lib.hid (at_any HZ.out.1)
  unfold readR
  cases hr : getR l k with
  | err ec ea =>
    rw [hr] at hG
    rw [Res.bind_err]
    show Calls _ _ _ _ (fun e w' => e = .panicked (stopP ec ea) ∧ w.grownBy w' (some p))
    have HG := Lib.hid hG
    clear hs hT hG hr HZ
    go_enter Tryz.func42, Tryz.ntmps42
    go_wp2_with (first
      | (go_at_call 60; go_must ((with_reducible refine HAT.out.mono ?_); rintro e w' ⟨rfl, rfl⟩))
      | (go_at_call 61; go_must ((with_reducible refine HG.out.mono ?_); rintro e w1 ⟨rfl, hg⟩; have HGE := Lib.hid hg; clear hg)))
    exact ⟨rfl, rfl, gb_trans (gb_alloc (gb_refl w _) _) HGE.out⟩
  | ok i k1 =>
    rw [hr] at hG
    rw [Res.bind_ok]
    obtain ⟨oi, hl10, hk1⟩ := getR_ok hr
    have HG := Lib.hid (show Calls Tryz.prog 61 #[.pointer (some ⟨p, 0, none⟩)] (w.alloc (.cells #[.int .u8 0, .int .u64 0, .int .u64 0, .slice none 0 0] 44)) (Gets p l i k1 (w.alloc (.cells #[.int .u8 0, .int .u64 0, .int .u64 0, .slice none 0 0] 44))) from hG)
    have HWM := Lib.hid (Whole.made w 44 #[.int .u8 0, .int .u64 0, .int .u64 0, .slice none 0 0])
    have hstart : ∀ w1 (A : Option Addr) (c : Nat), Sc w1 p l k1 → (w.alloc (.cells #[.int .u8 0, .int .u64 0, .int .u64 0, .slice none 0 0] 44)).grownBy w1 (some p) → LabT w1 A i.l → (∀ a, A = some a → (w.alloc (.cells #[.int .u8 0, .int .u64 0, .int .u64 0, .slice none 0 0] 44)).heap.size ≤ a.block) →
        RdS w p l w1.heap.size i A c k1 (w1.alloc (.cells (insC i A c) 44)) := fun w1 A c hs1 hg1 hty hfar => by
      have hz := hg1.size
      rw [size_box] at hz
      exact ⟨(HWM.out.grown hg1 (by simp only [ne_eq, Option.some.injEq]; omega)).alloc _, Whole.made _ _ _, hs1.alloc _, gb_alloc (gb_trans (gb_alloc (gb_refl w _) _) hg1) _, hlt, by omega, (HZ.out.2.self hg1).below (below_box w1 _) (by omega), hty.keep (gb_of_below none (below_box w1 _)) (fun a e => by simp), fun a ha => by have := hfar a ha; rw [size_box] at this; omega⟩
    have HST := Lib.hid hstart
    have HCR := Lib.hid (fun W (A : Option Addr) (c : Nat) (h : Tabs W) => cright_any i A c W oi h (by omega))
    clear hs hT hG hr hstart hl10 hk1 oi
    obtain ⟨z, hz⟩ : ∃ z, z = crightZ i := ⟨_, rfl⟩
    rw [← hz] at HCR ⊢
    clear hz
    by_cases h0 : z = 0
    · subst h0
      rw [if_pos rfl]
      have hB := fun W (h : Sc W p l k1) => byte_any h
      have HA1 := Lib.hid (fun W (h : Sc W p l k1) => at_any h)
      cases hb : byteR l k1 with
      | err ec ea =>
        rw [Res.bind_err]
        show Calls _ _ _ _ (fun e w' => e = .panicked (stopP ec ea) ∧ w.grownBy w' (some p))
        have HB := Lib.hid (fun W (h : Sc W p l k1) => show Calls Tryz.prog 62 #[.pointer (some ⟨p, 0, none⟩)] W (Did encB p l W (.err ec ea)) from by have := hB W h; rw [hb] at this; exact this)
        clear hB hb HZ
        go_enter Tryz.func42, Tryz.ntmps42
        go_wp2_with (first
          | (have tok := HG2; go_at_call 60; go_must ((with_reducible refine (HA1.out _ HG2.out.sc).mono ?_); rintro e w' ⟨rfl, rfl⟩))
          | (go_at_call 60; go_must ((with_reducible refine HAT.out.mono ?_); rintro e w' ⟨rfl, rfl⟩))
          | (go_at_call 61; go_must ((with_reducible refine HG.out.mono ?_); intro e w1 hq; obtain ⟨A, c, rfl, hla, hfar, hs, hg, hty⟩ := hq; have HG1 := Lib.hid (HST.out w1 A c hs hg hty hfar); have c0 := HG1.out.box.cell 0; have c1 := HG1.out.box.cell 1; have c2 := HG1.out.box.cell 2; have c3 := HG1.out.box.cell 3; simp only [List.getElem?_toArray, List.getElem?_cons_zero, List.getElem?_cons_succ] at c0 c1 c2 c3; clear hla hfar hs hg hty))
          | (go_at_call 52; go_must ((with_reducible refine (HCR.out _ _ _ HG1.out.tb.tabs).mono ?_); rintro e w2 ⟨rfl, hb2⟩; have HG2 := Lib.hid (HG1.out.below hb2); clear hb2))
          | (go_at_call 56; go_must ((with_reducible refine (unlessT _ _ _).mono ?_); rintro e w' ⟨rfl, rfl⟩))
          | (go_at_call 62; go_must ((with_reducible refine (HB.out _ HG2.out.sc).mono ?_); rintro e w3 ⟨rfl, hg⟩; have HGE := Lib.hid hg; clear hg)))
        exact ⟨rfl, rfl, gb_trans HG2.out.gr HGE.out⟩
      | ok d k2 =>
        rw [Res.bind_ok]
        have HB := Lib.hid (fun W (h : Sc W p l k1) => show Calls Tryz.prog 62 #[.pointer (some ⟨p, 0, none⟩)] W (Did encB p l W (.ok d k2)) from by have := hB W h; rw [hb] at this; exact this)
        clear hB hb HZ
        by_cases hd : d = 11
        · rw [if_pos hd]
          show Calls _ _ _ _ (Gets p l i k2 w)
          have dd : ((d.toNat : Int) == 11) = true := by rw [hd]; rfl
          clear hd
          go_enter Tryz.func42, Tryz.ntmps42
          go_wp2_with (first
            | (have tok := HG2; go_at_call 60; go_must ((with_reducible refine (HA1.out _ HG2.out.sc).mono ?_); rintro e w' ⟨rfl, rfl⟩))
            | (go_at_call 60; go_must ((with_reducible refine HAT.out.mono ?_); rintro e w' ⟨rfl, rfl⟩))
            | (go_at_call 61; go_must ((with_reducible refine HG.out.mono ?_); intro e w1 hq; obtain ⟨A, c, rfl, hla, hfar, hs, hg, hty⟩ := hq; have HG1 := Lib.hid (HST.out w1 A c hs hg hty hfar); have c0 := HG1.out.box.cell 0; have c1 := HG1.out.box.cell 1; have c2 := HG1.out.box.cell 2; have c3 := HG1.out.box.cell 3; have hh := HG1.out.h2; have n1 : ¬ w1.heap.size = w.heap.size := (by omega); have n2 : ¬ w.heap.size = w1.heap.size := (by omega); simp only [List.getElem?_toArray, List.getElem?_cons_zero, List.getElem?_cons_succ] at c0 c1 c2 c3; clear hla hfar hs hg hty hh))
            | (go_at_call 52; go_must ((with_reducible refine (HCR.out _ _ _ HG1.out.tb.tabs).mono ?_); rintro e w2 ⟨rfl, hb2⟩; have HG2 := Lib.hid (HG1.out.below hb2); clear hb2 c0 c1 c2 c3))
            | (go_at_call 56; go_must ((with_reducible refine (unlessT _ _ _).mono ?_); rintro e w' ⟨rfl, rfl⟩))
            | (go_at_call 62; go_must ((with_reducible refine (HB.out _ HG2.out.sc).mono ?_); rintro e w3 ⟨rfl, hs, hg⟩; have HG3 := Lib.hid (HG2.out.call hs hg); have c0 := HG3.out.box.cell 0; have c1 := HG3.out.box.cell 1; have c2 := HG3.out.box.cell 2; have c3 := HG3.out.box.cell 3; have r0 := HG3.out.res.cell 0; have r1 := HG3.out.res.cell 1; have r2 := HG3.out.res.cell 2; have r3 := HG3.out.res.cell 3; have z0 := HG3.out.res.frozen 0; have z1 := HG3.out.res.frozen 1; have z2 := HG3.out.res.frozen 2; have z3 := HG3.out.res.frozen 3; simp only [List.getElem?_toArray, List.getElem?_cons_zero, List.getElem?_cons_succ] at c0 c1 c2 c3 r0 r1 r2 r3; clear hs hg)))
          obtain ⟨q4, hf⟩ := HG3.out.fin _ rfl
          have q0 := q4.cell 0
          have q1 := q4.cell 1
          have q2 := q4.cell 2
          have q3 := q4.cell 3
          simp only [List.getElem?_toArray, List.getElem?_cons_zero, List.getElem?_cons_succ] at q0 q1 q2 q3
          exact bodyPost_ret (v := insV i A c) (by simp [results, Tryz.results42, go_sem, q0, q1, q2, q3]) rfl hf
        · rw [if_neg hd]
          show Calls _ _ _ _ (fun e w' => e = .panicked (stopP 12 k1) ∧ w.grownBy w' (some p))
          have dd : ((d.toNat : Int) == 11) = false := by
            have : d.toNat ≠ 11 := fun e => hd (UInt8.toNat_inj.1 (by rw [e]; rfl))
            simp; omega
          clear hd
          go_enter Tryz.func42, Tryz.ntmps42
          go_wp2_with (first
            | (have tok := HG2; go_at_call 60; go_must ((with_reducible refine (HA1.out _ HG2.out.sc).mono ?_); rintro e w' ⟨rfl, rfl⟩))
            | (go_at_call 60; go_must ((with_reducible refine HAT.out.mono ?_); rintro e w' ⟨rfl, rfl⟩))
            | (go_at_call 61; go_must ((with_reducible refine HG.out.mono ?_); intro e w1 hq; obtain ⟨A, c, rfl, hla, hfar, hs, hg, hty⟩ := hq; have HG1 := Lib.hid (HST.out w1 A c hs hg hty hfar); have c0 := HG1.out.box.cell 0; have c1 := HG1.out.box.cell 1; have c2 := HG1.out.box.cell 2; have c3 := HG1.out.box.cell 3; simp only [List.getElem?_toArray, List.getElem?_cons_zero, List.getElem?_cons_succ] at c0 c1 c2 c3; clear hla hfar hs hg hty))
            | (go_at_call 52; go_must ((with_reducible refine (HCR.out _ _ _ HG1.out.tb.tabs).mono ?_); rintro e w2 ⟨rfl, hb2⟩; have HG2 := Lib.hid (HG1.out.below hb2); clear hb2))
            | (have tok := HG3; go_at_call 56; go_must ((with_reducible refine (unlessF _ _ _).mono ?_); rintro e w' ⟨rfl, rfl⟩))
            | (go_at_call 56; go_must ((with_reducible refine (unlessT _ _ _).mono ?_); rintro e w' ⟨rfl, rfl⟩))
            | (go_at_call 62; go_must ((with_reducible refine (HB.out _ HG2.out.sc).mono ?_); rintro e w3 ⟨rfl, hs, hg⟩; have HG3 := Lib.hid (HG2.out.call hs hg); clear hs hg)))
          exact ⟨rfl, rfl, HG3.out.gr⟩
    · rw [if_neg h0]
      show Calls _ _ _ _ (fun e w' => e = .panicked (stopP z k) ∧ w.grownBy w' (some p))
      have dz : (z == 0) = false := by simpa using h0
      clear h0 HZ
      go_enter Tryz.func42, Tryz.ntmps42
      go_wp2_with (first
        | (go_at_call 60; go_must ((with_reducible refine HAT.out.mono ?_); rintro e w' ⟨rfl, rfl⟩))
        | (go_at_call 61; go_must ((with_reducible refine HG.out.mono ?_); intro e w1 hq; obtain ⟨A, c, rfl, hla, hfar, hs, hg, hty⟩ := hq; have HG1 := Lib.hid (HST.out w1 A c hs hg hty hfar); have c0 := HG1.out.box.cell 0; have c1 := HG1.out.box.cell 1; have c2 := HG1.out.box.cell 2; have c3 := HG1.out.box.cell 3; simp only [List.getElem?_toArray, List.getElem?_cons_zero, List.getElem?_cons_succ] at c0 c1 c2 c3; clear hla hfar hs hg hty))
        | (go_at_call 52; go_must ((with_reducible refine (HCR.out _ _ _ HG1.out.tb.tabs).mono ?_); rintro e w2 ⟨rfl, hb2⟩; have HG2 := Lib.hid (HG1.out.below hb2); clear hb2))
        | (go_at_call 56; go_must ((with_reducible refine (unlessF _ _ _).mono ?_); rintro e w' ⟨rfl, rfl⟩)))
      exact ⟨rfl, rfl, HG2.out.gr⟩
end Go.Proofs.YticgmfeihdankaaGreatDoor

/- globals.Get of any bytes. -/
namespace Go.Proofs.YticgmfeihdankaaGreatDoor
open Go.RowKit
set_option linter.unusedVariables false
set_option maxRecDepth 100000

/-- A global. -/
noncomputable def gR (l : List UInt8) (k : Nat) : Res Gl := (globR l k).bind fun t k1 => (readR l k1).bind fun i k2 => .ok ⟨t.1, t.2, i⟩ k2
/-- What Get leaves behind. -/
def GotR (p : Nat) (l : List UInt8) (r : Res Gl) (w : World) (e : Ending) (w' : World) : Prop := match r with
  | .ok x k => ∃ A c, e = .returned (glV x A c) ∧ Sc w' p l k ∧ w.grownBy w' (some p)
  | .err c a => e = .panicked (stopP c a) ∧ w.grownBy w' (some p)
/-- Get once the type is read: the result's block, the type's box; what the reader at q turns. -/
structure GBG (w : World) (q bt : Nat) (t : UInt8) (m : Bool) (W : World) : Prop where
  res : Whole W w.heap.size 46 glZ
  bx : Whole W bt 40 #[.int .u8 t.toNat, .bool m]
  gr : w.grownBy W (some q)
  hp : q < w.heap.size
  lt : w.heap.size < bt
section
variable {w W W' : World} {q bt : Nat} {t : UInt8} {m : Bool}
theorem GBG.call (h : GBG w q bt t m W) (hg : W.grownBy W' (some q)) : GBG w q bt t m W' := by
  have a := h.hp
  have b := h.lt
  exact ⟨h.res.grown hg (by simp only [ne_eq, Option.some.injEq]; omega), h.bx.grown hg (by simp only [ne_eq, Option.some.injEq]; omega), gb_trans h.gr hg, a, b⟩
theorem GBG.start {w w1 : World} (hp : q < w.heap.size) (hg : (w.alloc (.cells glZ 46)).grownBy w1 (some q)) : GBG w q w1.heap.size t m (w1.alloc (.cells #[.int .u8 t.toNat, .bool m] 40)) := by
  have hz := hg.size
  rw [size_box] at hz
  exact ⟨((Whole.made w _ _).grown hg (by simp only [ne_eq, Option.some.injEq]; omega)).alloc _, Whole.made _ _ _, gb_alloc (gb_trans (gb_alloc (gb_refl w _) _) hg) _, hp, by omega⟩
theorem GBG.fin {x0 x1 x2 x3 x4 x5 : Value} (h : GBG w q bt t m W) :
    Whole ((((((W.setCell ⟨w.heap.size, 0, none⟩ x0).setCell ⟨w.heap.size, 1, none⟩ x1).setCell ⟨w.heap.size, 2, none⟩ x2).setCell ⟨w.heap.size, 3, none⟩ x3).setCell ⟨w.heap.size, 4, none⟩ x4).setCell ⟨w.heap.size, 5, none⟩ x5) w.heap.size 46 #[x0, x1, x2, x3, x4, x5] ∧
    W.grownBy ((((((W.setCell ⟨w.heap.size, 0, none⟩ x0).setCell ⟨w.heap.size, 1, none⟩ x1).setCell ⟨w.heap.size, 2, none⟩ x2).setCell ⟨w.heap.size, 3, none⟩ x3).setCell ⟨w.heap.size, 4, none⟩ x4).setCell ⟨w.heap.size, 5, none⟩ x5) (some w.heap.size) ∧
    w.grownBy ((((((W.setCell ⟨w.heap.size, 0, none⟩ x0).setCell ⟨w.heap.size, 1, none⟩ x1).setCell ⟨w.heap.size, 2, none⟩ x2).setCell ⟨w.heap.size, 3, none⟩ x3).setCell ⟨w.heap.size, 4, none⟩ x4).setCell ⟨w.heap.size, 5, none⟩ x5) (some q) := by
  obtain ⟨h1, h2⟩ := put6 (u0 := x0) (u1 := x1) (u2 := x2) (u3 := x3) (u4 := x4) (u5 := x5) h.res
  have := h.hp
  exact ⟨h1, h2, gb_before h.gr h2 (fun g e => .inr (by injection e with e; omega))⟩
end
set_option maxHeartbeats 4000000 in
theorem get_gl {w : World} {p : Nat} {l : List UInt8} {k : Nat} (h : Sc w p l k) (hT : TbP p w) :
    Calls Tryz.prog 22 #[.pointer (some ⟨p, 0, none⟩)] w (GotR p l (gR l k) w) := by
  have hp := h.lt
  have hG := global_scan (h.alloc (.cells glZ 46))
  have HT0 := Lib.hid (hT.below (below_box w (.cells glZ 46)) (Nat.le_of_lt hp))
  have HWM := Lib.hid (Whole.made w 46 glZ)
  unfold gR
  cases h1 : globR l k with
  | err c a =>
    rw [h1] at hG
    rw [Res.bind_err]
    have HG := Lib.hid hG
    clear hG h1 h hT
    go_enter Tryz.func22, Tryz.ntmps22
    go_wp2_with (go_at_call 41; go_must ((with_reducible refine HG.out.mono ?_); rintro e w1 ⟨rfl, hg⟩; have HG1 := Lib.hid hg; clear hg))
    exact ⟨rfl, rfl, gb_trans (gb_alloc (gb_refl w _) _) HG1.out⟩
  | ok t k1 =>
    rw [h1] at hG
    rw [Res.bind_ok]
    obtain ⟨t, m⟩ := t
    have HG := Lib.hid (show Calls Tryz.prog 41 #[.pointer (some ⟨p, 0, none⟩)] (w.alloc (.cells glZ 46)) (fun e w' => e = .returned (.agg #[.int .u8 t.toNat, .bool m]) ∧ Sc w' p l k1 ∧ (w.alloc (.cells glZ 46)).grownBy w' (some p)) from hG)
    clear hG h1 h hT
    have hC := fun W (hs : Sc W p l k1) (ht : TbP p W) => cread_any hs ht
    cases h2 : readR l k1 with
    | err c a =>
      rw [h2] at hC
      rw [Res.bind_err]
      have HC := Lib.hid (fun W (hs : Sc W p l k1) (ht : TbP p W) => show Calls Tryz.prog 42 #[.pointer (some ⟨p, 0, none⟩)] W (fun e w' => e = .panicked (stopP c a) ∧ W.grownBy w' (some p)) from hC W hs ht)
      clear hC h2
      go_enter Tryz.func22, Tryz.ntmps22
      go_wp2_with (go_at_call 41; go_must ((with_reducible refine HG.out.mono ?_); rintro e w1 ⟨rfl, hs, hg⟩; have HGB := Lib.hid (GBG.start (t := t) (m := m) hp hg); have HS1 := Lib.hid (hs.alloc (.cells #[.int .u8 t.toNat, .bool m] 40)); have HT1 := Lib.hid ((HT0.out.self hg).below (below_box w1 (.cells #[.int .u8 t.toNat, .bool m] 40)) (Nat.le_of_lt hs.lt)); clear hs hg))
      generalize w1.alloc (.cells #[.int .u8 t.toNat, .bool m] 40) = W at *
      generalize w1.heap.size = bt at *
      have x0 := HGB.out.bx.cell 0
      have x1 := HGB.out.bx.cell 1
      simp only [List.getElem?_toArray, List.getElem?_cons_zero, List.getElem?_cons_succ] at x0 x1
      have HC2 := Lib.hid (HC.out _ (show Sc W.drew p l k1 from HS1.out) (show TbP p W.drew from HT1.out.self (gb_drew (gb_refl _ _))))
      refine wp_region_held_drew (S := fun W' => W'.cell? ⟨bt, 0, none⟩ = some (.int .u8 t.toNat) ∧ W'.cell? ⟨bt, 1, none⟩ = some (.bool m)) (by kernel_rfl) ⟨x0, x1⟩ (fun hHeld => ?_)
      (refine wpAnyH_take (i := 0) (oi := { dst := some 6, op := Op.load 40 (Operand.tmp 3), type := 40, pos := "globals.go:32", after := #[], guard := none }) (v := ?_) rfl (by kernel_rfl) (by kernel_rfl) (by kernel_rfl) (fun _ _ _ h => h) ?_ (by assumption) ?_; rotate_left; focus (refine .inl ⟨by kernel_rfl, ?_⟩; intro w hSw; (try dsimp only at hSw); go_simp; (try with_reducible rfl)); (try simp only [Act.put, List.setIfInBounds_toArray, List.set_cons_zero, List.set_cons_succ]))
      (refine wpAnyH_take (i := 1) (oi := { dst := some 7, op := Op.move (Operand.tmp 0), type := 24, pos := "globals.go:32", after := #[], guard := none }) (v := ?_) rfl (by kernel_rfl) (by kernel_rfl) (by kernel_rfl) (fun _ _ _ h => h) ?_ (by assumption) ?_; rotate_left; focus (refine .inl ⟨by kernel_rfl, ?_⟩; intro w hSw; (try dsimp only at hSw); go_simp; (try with_reducible rfl)); (try simp only [Act.put, List.setIfInBounds_toArray, List.set_cons_zero, List.set_cons_succ]))
      refine wpAnyH_ready (rs := [2]) (by kernel_rfl) (by simp) ?_
      refine AllReadyH.cons (o := { dst := some 8, op := Op.call { callee := Callee.value (Operand.func 42), args := #[Operand.tmp 7], argTypes := #[24] }, type := 44, pos := "globals.go:32", after := #[{ on := 1, ground := Ground.data }], guard := none }) rfl (fun K hK => ?_) AllReadyH.nil
      go_simp
      (go_at_call 42; (with_reducible refine HC2.out.mono ?_); rintro e w2 ⟨rfl, hg⟩; exact ⟨rfl, rfl, gb_trans (gb_drew HGB.out.gr) hg⟩)
    | ok i k2 =>
      rw [h2] at hC
      rw [Res.bind_ok]
      have HC := Lib.hid (fun W (hs : Sc W p l k1) (ht : TbP p W) => show Calls Tryz.prog 42 #[.pointer (some ⟨p, 0, none⟩)] W (Gets p l i k2 W) from hC W hs ht)
      clear hC h2
      go_enter Tryz.func22, Tryz.ntmps22
      go_wp2_with (go_at_call 41; go_must ((with_reducible refine HG.out.mono ?_); rintro e w1 ⟨rfl, hs, hg⟩; have HGB := Lib.hid (GBG.start (t := t) (m := m) hp hg); have HS1 := Lib.hid (hs.alloc (.cells #[.int .u8 t.toNat, .bool m] 40)); have HT1 := Lib.hid ((HT0.out.self hg).below (below_box w1 (.cells #[.int .u8 t.toNat, .bool m] 40)) (Nat.le_of_lt hs.lt)); clear hs hg))
      generalize w1.alloc (.cells #[.int .u8 t.toNat, .bool m] 40) = W at *
      generalize w1.heap.size = bt at *
      have HC2 := Lib.hid (HC.out _ (show Sc W.drew p l k1 from HS1.out) (show TbP p W.drew from HT1.out.self (gb_drew (gb_refl _ _))))
      have HGD := Lib.hid (HGB.out.call (gb_drew (gb_refl W _)))
      have x0 := HGB.out.bx.cell 0
      have x1 := HGB.out.bx.cell 1
      simp only [List.getElem?_toArray, List.getElem?_cons_zero, List.getElem?_cons_succ] at x0 x1
      clear HC HS1 HT1 HGB HG HT0
      go_region_with (go_at_call 42; (with_reducible refine HC2.out.mono ?_); intro e w2 hq; obtain ⟨A, c, rfl, _, _, hs, hg, _⟩ := hq; have HS2 := Lib.hid hs; have HG2 := Lib.hid (HGD.out.call hg); have y0 := HG2.out.bx.cell 0; have y1 := HG2.out.bx.cell 1; simp only [List.getElem?_toArray, List.getElem?_cons_zero, List.getElem?_cons_succ] at y0 y1; have f0 := HG2.out.res.frozen 0; have f1 := HG2.out.res.frozen 1; have f2 := HG2.out.res.frozen 2; have f3 := HG2.out.res.frozen 3; have f4 := HG2.out.res.frozen 4; have f5 := HG2.out.res.frozen 5; have z0 := HG2.out.res.cell 0; have z1 := HG2.out.res.cell 1; have z2 := HG2.out.res.cell 2; have z3 := HG2.out.res.cell 3; have z4 := HG2.out.res.cell 4; have z5 := HG2.out.res.cell 5; simp only [List.getElem?_toArray, List.getElem?_cons_zero, List.getElem?_cons_succ] at z0 z1 z2 z3 z4 z5; clear hs hg)
      all_goals
        go_wp2
        obtain ⟨h1, h2, h3⟩ := GBG.fin (x0 := .int .u8 t.toNat) (x1 := .bool m) (x2 := .int .u8 i.op.toNat) (x3 := .int .u64 i.a) (x4 := .int .u64 i.b) (x5 := .slice A i.l.length c) HG2.out
        obtain ⟨q0, q1, q2, q3, q4, q5⟩ := Whole.gl (x := ⟨t, m, i⟩) h1
        have hs3 := HS2.out.grown h2 (by have := HG2.out.hp; simp only [ne_eq, Option.some.injEq]; omega) (fun g e => by have := HG2.out.hp; injection e with e; omega)
        exact bodyPost_ret (v := glV ⟨t, m, i⟩ A c) (by simp [results, Tryz.results22, go_sem, q0, q1, q2, q3, q4, q5]) rfl ⟨A, c, rfl, hs3, h3⟩
end Go.Proofs.YticgmfeihdankaaGreatDoor

/- The reference's Global and creelref12.Get, whatever the reader's state. (By gen/genRefG.py.) -/
namespace Go.Proofs.YticgmfeihdankaaGreatDoor
open Go.RowKit
set_option linter.unusedVariables false
set_option maxRecDepth 100000

/-- A global's type; behind an error the zero value. -/
def GlobP (q : Nat) (l : List UInt8) (r : Res (UInt8 × Bool)) (w : World) (e : Ending) (w' : World) : Prop :=
  ∃ v : UInt8 × Bool, e = .returned (encGl v) ∧ Rs w' q l (stOf r) ∧ (∀ y k, r = .ok y k → v = y) ∧ w.grownBy w' (some q)
set_option maxHeartbeats 2000000 in
theorem glob_ref {w : World} {q : Nat} {l : List UInt8} {s : RSt} (h : Rs w q l s) :
    Calls Tryz.prog 45 #[.pointer (some ⟨q, 0, none⟩)] w (GlobP q l (s.bind (globR l)) w) := by
  have hlt := h.lt
  have hV := val_ref (h.alloc (.cells #[.int .u8 0, .bool false] 40))
  have HWM := Lib.hid (Whole.made w 40 #[.int .u8 0, .bool false])
  have hr : s.bind (globR l) = (s.bind (valR l)).bind fun t k1 => (flagR l k1).bind fun m k2 => .ok (t, m) k2 := by
    cases s <;> rfl
  rw [hr]
  clear hr
  obtain ⟨r1, hr1⟩ : ∃ r1, r1 = s.bind (valR l) := ⟨_, rfl⟩
  rw [← hr1] at hV ⊢
  have HV := Lib.hid hV
  clear hV h hr1
  cases r1 with
  | err c a =>
    rw [Res.bind_err]
    have HB := Lib.hid (fun W (g : Rs W q l (.bad c a)) => show Calls Tryz.prog 65 #[.pointer (some ⟨q, 0, none⟩)] W fun e w' => e = .returned (.int .i64 0) ∧ Rs w' q l (.bad c a) ∧ W.grownBy w' (some q) from byte_ref g)
    have HNZ := Lib.hid (fun W (g : Rs W q l (.bad c a)) => show (c == 0) = false ∧ (c != 0) = true from ⟨by simpa using g.nz, by simpa using g.nz⟩)
    have HV := Lib.hid (show Calls Tryz.prog 64 #[.pointer (some ⟨q, 0, none⟩)] (w.alloc (.cells #[.int .u8 0, .bool false] 40)) (fun e w' => ∃ v : UInt8, e = .returned (.int .u8 v.toNat) ∧ Rs w' q l (.bad c a) ∧ (∀ d k, (Res.err c a : Res UInt8) = .ok d k → v = d) ∧ (w.alloc (.cells #[.int .u8 0, .bool false] 40)).grownBy w' (some q)) from HV.out)
    go_enter Tryz.func45, Tryz.ntmps45
    go_wp2_with (first
      | (go_at_call 64; go_must ((with_reducible refine HV.out.mono ?_); intro e w1 hq; obtain ⟨v, rfl, hs, hv, hg⟩ := hq; clear hv; have HS := Lib.hid hs; have HG := Lib.hid hg; have HW1 := Lib.hid (HWM.out.grown hg (by simp only [ne_eq, Option.some.injEq]; omega)); obtain ⟨jx, x1⟩ := at_bad hs; clear hs hg))
      | (go_at_call 65; go_must ((with_reducible refine (HB.out _ HS.out).mono ?_); rintro e w2 ⟨rfl, hs, hg⟩; have HS2 := Lib.hid hs; have HG2 := Lib.hid hg; have x2 := why_bad hs; have HW2 := Lib.hid (HW1.out.grown hg (by simp only [ne_eq, Option.some.injEq]; omega)); have f0 := HW2.out.frozen 0; have f1 := HW2.out.frozen 1; have z0 := HW2.out.cell 0; have z1 := HW2.out.cell 1; simp only [List.getElem?_toArray, List.getElem?_cons_zero, List.getElem?_cons_succ] at z0 z1; obtain ⟨d1, d2⟩ := HNZ.out _ HS2.out; clear hs hg x1)))
    obtain ⟨h1, h2⟩ := put2 (u0 := .int .u8 0) (u1 := .bool false) HW2.out
    have q0 := h1.cell 0
    have q1 := h1.cell 1
    simp only [List.getElem?_toArray, List.getElem?_cons_zero, List.getElem?_cons_succ] at q0 q1
    exact bodyPost_ret (v := .agg #[.int .u8 0, .bool false]) (by simp [results, Tryz.results45, go_sem, q0, q1]) rfl ⟨(0, false), rfl, HS2.out.grown h2 (by simp only [ne_eq, Option.some.injEq]; omega) (fun g e => by injection e with e; omega), (fun y k e => by cases e), gb_before (gb_trans (gb_trans (gb_alloc (gb_refl w _) _) HG.out) HG2.out) h2 (fun g e => .inr (by injection e with e; omega))⟩
  | ok t k1 =>
    rw [Res.bind_ok]
    have HV := Lib.hid (show Calls Tryz.prog 64 #[.pointer (some ⟨q, 0, none⟩)] (w.alloc (.cells #[.int .u8 0, .bool false] 40)) (fun e w' => ∃ v : UInt8, e = .returned (.int .u8 v.toNat) ∧ Rs w' q l (.at k1) ∧ (∀ d k, (Res.ok t k1 : Res UInt8) = .ok d k → v = d) ∧ (w.alloc (.cells #[.int .u8 0, .bool false] 40)).grownBy w' (some q)) from HV.out)
    have hB := fun W (g : Rs W q l (.at k1)) => show Calls Tryz.prog 65 #[.pointer (some ⟨q, 0, none⟩)] W fun e w' => e = .returned (.int .i64 (v8 (byteR l k1))) ∧ Rs w' q l (stOf (byteR l k1)) ∧ W.grownBy w' (some q) from byte_ref g
    unfold flagR
    cases hb : byteR l k1 with
    | err c a =>
      rw [hb] at hB
      rw [Res.bind_err, Res.bind_err]
      have HB := Lib.hid (fun W (g : Rs W q l (.at k1)) => show Calls Tryz.prog 65 #[.pointer (some ⟨q, 0, none⟩)] W fun e w' => e = .returned (.int .i64 0) ∧ Rs w' q l (.bad c a) ∧ W.grownBy w' (some q) from hB W g)
      have d1 : (c == 0) = false := by have := byteR_nz hb; simpa using this
      have d2 : (c != 0) = true := by have := byteR_nz hb; simpa using this
      clear hB hb
      go_enter Tryz.func45, Tryz.ntmps45
      go_wp2_with (first
        | (go_at_call 64; go_must ((with_reducible refine HV.out.mono ?_); intro e w1 hq; obtain ⟨v, rfl, hs, hv, hg⟩ := hq; obtain rfl := hv _ _ rfl; have HS := Lib.hid hs; have HG := Lib.hid hg; have HW1 := Lib.hid (HWM.out.grown hg (by simp only [ne_eq, Option.some.injEq]; omega)); have x1 := at_at hs; clear hs hg))
        | (go_at_call 65; go_must ((with_reducible refine (HB.out _ HS.out).mono ?_); rintro e w2 ⟨rfl, hs, hg⟩; have HS2 := Lib.hid hs; have HG2 := Lib.hid hg; have x2 := why_bad hs; have HW2 := Lib.hid (HW1.out.grown hg (by simp only [ne_eq, Option.some.injEq]; omega)); have f0 := HW2.out.frozen 0; have f1 := HW2.out.frozen 1; have z0 := HW2.out.cell 0; have z1 := HW2.out.cell 1; simp only [List.getElem?_toArray, List.getElem?_cons_zero, List.getElem?_cons_succ] at z0 z1; clear hs hg x1)))
      obtain ⟨h1, h2⟩ := put2 (u0 := .int .u8 0) (u1 := .bool false) HW2.out
      have q0 := h1.cell 0
      have q1 := h1.cell 1
      simp only [List.getElem?_toArray, List.getElem?_cons_zero, List.getElem?_cons_succ] at q0 q1
      exact bodyPost_ret (v := .agg #[.int .u8 0, .bool false]) (by simp [results, Tryz.results45, go_sem, q0, q1]) rfl ⟨(0, false), rfl, HS2.out.grown h2 (by simp only [ne_eq, Option.some.injEq]; omega) (fun g e => by injection e with e; omega), (fun y k e => by cases e), gb_before (gb_trans (gb_trans (gb_alloc (gb_refl w _) _) HG.out) HG2.out) h2 (fun g e => .inr (by injection e with e; omega))⟩
    | ok d k2 =>
      rw [hb] at hB
      rw [Res.bind_ok]
      have HB := Lib.hid (fun W (g : Rs W q l (.at k1)) => show Calls Tryz.prog 65 #[.pointer (some ⟨q, 0, none⟩)] W fun e w' => e = .returned (.int .i64 d.toNat) ∧ Rs w' q l (.at k2) ∧ W.grownBy w' (some q) from hB W g)
      clear hB hb
      by_cases hd : (d.toNat : Int) ≤ 1
      · rw [if_pos hd, Res.bind_ok]
        have d3 : decide ((1 : Int) < (d.toNat : Int)) = false := decide_eq_false (by omega)
        clear hd
        go_enter Tryz.func45, Tryz.ntmps45
        go_wp2_with (first
          | (go_at_call 64; go_must ((with_reducible refine HV.out.mono ?_); intro e w1 hq; obtain ⟨v, rfl, hs, hv, hg⟩ := hq; obtain rfl := hv _ _ rfl; have HS := Lib.hid hs; have HG := Lib.hid hg; have HW1 := Lib.hid (HWM.out.grown hg (by simp only [ne_eq, Option.some.injEq]; omega)); have x1 := at_at hs; clear hs hg))
          | (go_at_call 65; go_must ((with_reducible refine (HB.out _ HS.out).mono ?_); rintro e w2 ⟨rfl, hs, hg⟩; have HS2 := Lib.hid hs; have HG2 := Lib.hid hg; have x2 := why_at hs; have HW2 := Lib.hid (HW1.out.grown hg (by simp only [ne_eq, Option.some.injEq]; omega)); have f0 := HW2.out.frozen 0; have f1 := HW2.out.frozen 1; have z0 := HW2.out.cell 0; have z1 := HW2.out.cell 1; simp only [List.getElem?_toArray, List.getElem?_cons_zero, List.getElem?_cons_succ] at z0 z1; clear hs hg x1)))
        obtain ⟨h1, h2⟩ := put2 (u0 := .int .u8 v.toNat) (u1 := .bool ((d.toNat : Int) == 1)) HW2.out
        have q0 := h1.cell 0
        have q1 := h1.cell 1
        simp only [List.getElem?_toArray, List.getElem?_cons_zero, List.getElem?_cons_succ] at q0 q1
        exact bodyPost_ret (v := .agg #[.int .u8 v.toNat, .bool ((d.toNat : Int) == 1)]) (by simp [results, Tryz.results45, go_sem, q0, q1]) rfl ⟨(v, (d.toNat : Int) == 1), rfl, HS2.out.grown h2 (by simp only [ne_eq, Option.some.injEq]; omega) (fun g e => by injection e with e; omega), (fun y k e => by injection e with e1 e2), gb_before (gb_trans (gb_trans (gb_alloc (gb_refl w _) _) HG.out) HG2.out) h2 (fun g e => .inr (by injection e with e; omega))⟩
      · rw [if_neg hd, Res.bind_err]
        have d3 : decide ((1 : Int) < (d.toNat : Int)) = true := decide_eq_true (by omega)
        have HF := Lib.hid (fun W (g : Rs W q l (.at k2)) => show Calls Tryz.prog 44 #[.pointer (some ⟨q, 0, none⟩), .int .i64 10, .int .i64 k1] W fun e w' => e = .returned (.tuple #[]) ∧ Rs w' q l (.bad 10 k1) ∧ W.grownBy w' (some q) from fail_ref g 10 k1 (by decide))
        clear hd
        go_enter Tryz.func45, Tryz.ntmps45
        go_wp2_with (first
          | (go_at_call 64; go_must ((with_reducible refine HV.out.mono ?_); intro e w1 hq; obtain ⟨v, rfl, hs, hv, hg⟩ := hq; obtain rfl := hv _ _ rfl; have HS := Lib.hid hs; have HG := Lib.hid hg; have HW1 := Lib.hid (HWM.out.grown hg (by simp only [ne_eq, Option.some.injEq]; omega)); have x1 := at_at hs; clear hs hg))
          | (go_at_call 65; go_must ((with_reducible refine (HB.out _ HS.out).mono ?_); rintro e w2 ⟨rfl, hs, hg⟩; have HS2 := Lib.hid hs; have HG2 := Lib.hid hg; have x2 := why_at hs; have HW2 := Lib.hid (HW1.out.grown hg (by simp only [ne_eq, Option.some.injEq]; omega)); have tok := HW2; clear hs hg x1))
          | (go_at_call 44; go_must ((with_reducible refine (HF.out _ HS2.out).mono ?_); rintro e w3 ⟨rfl, hs, hg⟩; have HS3 := Lib.hid hs; have HG3 := Lib.hid hg; clear x2; have x2 := why_bad hs; have HW3 := Lib.hid (HW2.out.grown hg (by simp only [ne_eq, Option.some.injEq]; omega)); have f0 := HW3.out.frozen 0; have f1 := HW3.out.frozen 1; have z0 := HW3.out.cell 0; have z1 := HW3.out.cell 1; simp only [List.getElem?_toArray, List.getElem?_cons_zero, List.getElem?_cons_succ] at z0 z1; clear hs hg)))
        obtain ⟨h1, h2⟩ := put2 (u0 := .int .u8 0) (u1 := .bool false) HW3.out
        have q0 := h1.cell 0
        have q1 := h1.cell 1
        simp only [List.getElem?_toArray, List.getElem?_cons_zero, List.getElem?_cons_succ] at q0 q1
        exact bodyPost_ret (v := .agg #[.int .u8 0, .bool false]) (by simp [results, Tryz.results45, go_sem, q0, q1]) rfl ⟨(0, false), rfl, HS3.out.grown h2 (by simp only [ne_eq, Option.some.injEq]; omega) (fun g e => by injection e with e; omega), (fun y k e => by cases e), gb_before (gb_trans (gb_trans (gb_trans (gb_alloc (gb_refl w _) _) HG.out) HG2.out) HG3.out) h2 (fun g e => .inr (by injection e with e; omega))⟩

/-- What creelref12.Get leaves behind. -/
def RGotG (q : Nat) (l : List UInt8) (r : Res Gl) (w : World) (e : Ending) (w' : World) : Prop :=
  ∃ (x : Gl) (A : Option Addr) (c : Nat), e = .returned (glV x A c) ∧ Rs w' q l (stOf r) ∧ (∀ y k, r = .ok y k → x = y) ∧ w.grownBy w' (some q)
set_option maxHeartbeats 4000000 in
theorem rget_gl {w : World} {q : Nat} {l : List UInt8} {s : RSt} (h : Rs w q l s) :
    Calls Tryz.prog 24 #[.pointer (some ⟨q, 0, none⟩)] w (RGotG q l (s.bind (gR l)) w) := by
  have hp := h.lt
  have hG := glob_ref (h.alloc (.cells glZ 46))
  have hr : s.bind (gR l) = (s.bind (globR l)).bind fun t k1 => (readR l k1).bind fun i k2 => .ok ⟨t.1, t.2, i⟩ k2 := by cases s <;> rfl
  rw [hr]
  clear hr h
  obtain ⟨r1, hr1⟩ : ∃ r1, r1 = s.bind (globR l) := ⟨_, rfl⟩
  rw [← hr1] at hG ⊢
  have HG := Lib.hid (show Calls Tryz.prog 45 #[.pointer (some ⟨q, 0, none⟩)] (w.alloc (.cells glZ 46)) (fun e w' => ∃ v : UInt8 × Bool, e = .returned (.agg #[.int .u8 v.1.toNat, .bool v.2]) ∧ Rs w' q l (stOf r1) ∧ (∀ y k, r1 = .ok y k → v = y) ∧ (w.alloc (.cells glZ 46)).grownBy w' (some q)) from hG)
  clear hr1 hG
  have HC := Lib.hid (fun W (g : Rs W q l (stOf r1)) => refC_v g)
  have HE : Hid (stOf (r1.bind fun t k1 => (readR l k1).bind fun i k2 => .ok (⟨t.1, t.2, i⟩ : Gl) k2) = stOf ((stOf r1).bind (readR l)) ∧ ∀ (v : UInt8 × Bool) (i : I), (∀ y k, r1 = .ok y k → v = y) → (∀ y k, (stOf r1).bind (readR l) = .ok y k → i = y) → ∀ (y : Gl) k, (r1.bind fun t k1 => (readR l k1).bind fun i k2 => .ok (⟨t.1, t.2, i⟩ : Gl) k2) = .ok y k → (⟨v.1, v.2, i⟩ : Gl) = y) := by
    cases r1 with
    | err c a => exact ⟨rfl, fun v i _ _ y k e => by cases e⟩
    | ok t k1 =>
      rw [Res.bind_ok]
      show stOf ((readR l k1).bind fun i k2 => .ok (⟨t.1, t.2, i⟩ : Gl) k2) = stOf (readR l k1) ∧ ∀ (v : UInt8 × Bool) (i : I), (∀ y k, Res.ok t k1 = .ok y k → v = y) → (∀ y k, readR l k1 = .ok y k → i = y) → ∀ (y : Gl) k, ((readR l k1).bind fun i k2 => .ok (⟨t.1, t.2, i⟩ : Gl) k2) = .ok y k → (⟨v.1, v.2, i⟩ : Gl) = y
      cases readR l k1 with
      | err c a => exact ⟨rfl, fun v i _ _ y k e => by cases e⟩
      | ok j k2 => exact ⟨rfl, fun v i h1 h2 y k e => by
          obtain rfl := h1 _ _ rfl
          obtain rfl := h2 _ _ rfl
          rw [Res.bind_ok] at e
          injection e with e1 e2⟩
  obtain ⟨R, hR⟩ : ∃ R, R = r1.bind fun t k1 => (readR l k1).bind fun i k2 => .ok (⟨t.1, t.2, i⟩ : Gl) k2 := ⟨_, rfl⟩
  rw [← hR] at HE ⊢
  clear hR
  go_enter Tryz.func24, Tryz.ntmps24
  go_wp2_with (go_at_call 45; go_must ((with_reducible refine HG.out.mono ?_); intro e w1 hq; obtain ⟨v, rfl, hs, hv, hg⟩ := hq; have HV1 := Lib.hid hv; have HS1 := Lib.hid (hs.alloc (.cells #[.int .u8 v.1.toNat, .bool v.2] 40)); have HGB := Lib.hid (GBG.start (t := v.1) (m := v.2) hp hg); clear hs hg hv))
  generalize w1.alloc (.cells #[.int .u8 v.1.toNat, .bool v.2] 40) = W at *
  generalize w1.heap.size = bt at *
  have HC2 := Lib.hid (HC.out _ (show Rs W.drew q l (stOf r1) from HS1.out))
  have HGD := Lib.hid (HGB.out.call (gb_drew (gb_refl W _)))
  have x0 := HGB.out.bx.cell 0
  have x1 := HGB.out.bx.cell 1
  simp only [List.getElem?_toArray, List.getElem?_cons_zero, List.getElem?_cons_succ] at x0 x1
  clear HC HS1 HGB HG
  go_region_with (go_at_call 46; (with_reducible refine HC2.out.mono ?_); intro e w2 hq; obtain ⟨i, A, c, rfl, hs, hv, hg⟩ := hq; have HV2 := Lib.hid hv; have HS2 := Lib.hid hs; have HG2 := Lib.hid (HGD.out.call hg); have y0 := HG2.out.bx.cell 0; have y1 := HG2.out.bx.cell 1; simp only [List.getElem?_toArray, List.getElem?_cons_zero, List.getElem?_cons_succ] at y0 y1; have f0 := HG2.out.res.frozen 0; have f1 := HG2.out.res.frozen 1; have f2 := HG2.out.res.frozen 2; have f3 := HG2.out.res.frozen 3; have f4 := HG2.out.res.frozen 4; have f5 := HG2.out.res.frozen 5; have z0 := HG2.out.res.cell 0; have z1 := HG2.out.res.cell 1; have z2 := HG2.out.res.cell 2; have z3 := HG2.out.res.cell 3; have z4 := HG2.out.res.cell 4; have z5 := HG2.out.res.cell 5; simp only [List.getElem?_toArray, List.getElem?_cons_zero, List.getElem?_cons_succ] at z0 z1 z2 z3 z4 z5; clear hs hg hv)
  all_goals
    go_wp2
    obtain ⟨h1, h2, h3⟩ := GBG.fin (x0 := .int .u8 v.1.toNat) (x1 := .bool v.2) (x2 := .int .u8 i.op.toNat) (x3 := .int .u64 i.a) (x4 := .int .u64 i.b) (x5 := .slice A i.l.length c) HG2.out
    obtain ⟨q0, q1, q2, q3, q4, q5⟩ := Whole.gl (x := ⟨v.1, v.2, i⟩) h1
    have hs3 := HS2.out.grown h2 (by have := HG2.out.hp; simp only [ne_eq, Option.some.injEq]; omega) (fun g e => by have := HG2.out.hp; injection e with e; omega)
    exact bodyPost_ret (v := glV ⟨v.1, v.2, i⟩ A c) (by simp [results, Tryz.results24, go_sem, q0, q1, q2, q3, q4, q5]) rfl ⟨⟨v.1, v.2, i⟩, A, c, rfl, by rw [HE.out.1]; exact hs3, HE.out.2 v i HV1.out HV2.out, h3⟩
end Go.Proofs.YticgmfeihdankaaGreatDoor

/- globals.Put; creelref12.Count, Put. -/
namespace Go.Proofs.YticgmfeihdankaaGreatDoor
open Go.RowKit
set_option linter.unusedVariables false
set_option maxRecDepth 100000

noncomputable def gputL (x : Gl) : List UInt8 := encG x.t.toNat x.m ++ cputL x.i
theorem gputL_len {x : Gl} (h : x.i.Ok) (h0 : rG x = 0) : 3 ≤ (gputL x).length ∧ (gputL x).length ≤ 34 := by
  have h1 := cputL_len h (rG_zero h0).2
  have h2 : (encG x.t.toNat x.m).length = 2 := rfl
  unfold gputL
  rw [List.length_append]
  omega
/-- What Put hands back. -/
def PuttedG (x : Gl) (w : World) (e : Ending) (w' : World) : Prop := ∃ v, e = .returned (.tuple #[v, .int .i64 (rG x)]) ∧ Row w' w.heap.size v (if rG x = 0 then gputL x else []) ∧ Below w.heap.size w w'
set_option maxHeartbeats 8000000 in
theorem put_gl (x : Gl) (A : Option Addr) (c : Nat) (w : World) (oi : x.i.Ok) (hT : Tabs w) (hl : (x.i.l.length : Int) ≤ 9223372036854775807) :
    Calls Tryz.prog 17 #[glV x A c] w (PuttedG x w) := by
  have H0 := Lib.hid (bxG_start w x A c)
  have HR := Lib.hid (gright_any x A c _ oi (hT.below (below_box w (.cells (glC x A c) 46))) hl)
  unfold PuttedG
  by_cases h0 : rG x = 0
  · rw [if_pos h0]
    have hz := (rG_zero h0).2
    have hcl := cputL_len oi hz
    have hsp : gputL x = encG x.t.toNat x.m ++ cputL x.i := rfl
    have HP := Lib.hid (fun W (hb : Below w.heap.size w W) => show Calls Tryz.prog 34 #[insV x.i A c] W fun e w' => ∃ v, e = .returned (.tuple #[v, .int .i64 0]) ∧ Row w' W.heap.size v (cputL x.i) ∧ Below W.heap.size W w' from
      (cput2_any x.i A c W oi (hT.below hb) hz).mono fun e w' ⟨v, h1, h2, h3⟩ => ⟨v, by rw [hz] at h1; exact h1, by rw [if_pos hz] at h2; exact h2, h3⟩)
    have HE := Lib.hid (fun W => encG_any x.t.toNat x.m W (by omega) (u8_le _))
    have he2 : (encG x.t.toNat x.m).length = 2 := rfl
    rw [h0] at HR ⊢
    rw [hsp]
    generalize cputL x.i = y at *
    generalize encG (x.t.toNat : Int) x.m = g at *
    have hgy : g.length + y.length ≤ 1000000 := by omega
    clear hz hcl hsp hT h0 oi hl
    go_enter Tryz.func17, Tryz.ntmps17
    go_wp2_with (first
      | (go_at_call 33; go_must ((with_reducible refine HR.out.mono ?_); rintro e w1 ⟨rfl, hb⟩; have H1 := Lib.hid (bxG_on H0.out hb); obtain ⟨c0, c1, c2, c3, c4, c5⟩ := H1.out.2; clear hb))
      | (go_at_call 34; go_must ((with_reducible refine (HP.out _ (bxG_bel H1.out)).mono ?_); intro e w2 hq; obtain ⟨v, rfl, hr, hb⟩ := hq; clear c0 c1 c2 c3 c4 c5; obtain ⟨A2, cp2, rfl, hpc⟩ := hr.pc; have HP2 := Lib.hid hpc; have H2 := Lib.hid (bxG_on H1.out hb); obtain ⟨c0, c1, c2, c3, c4, c5⟩ := H2.out.2; clear hb hr hpc))
      | (go_at_call 35; go_must ((with_reducible refine (HE.out _).mono ?_); intro e w3 hq; obtain ⟨v3, rfl, hr, hb⟩ := hq; have H3 := Lib.hid (bxG_on H2.out hb); have HP3 := Lib.hid (HP2.out.below hb); have HR3 := Lib.hid hr; have hz3 := hb.size; clear hb hr c0 c1 c2 c3 c4 c5))
      | (at_builtin; (refine row_any rfl _ _ rfl w2.heap.size _ g rfl HR3.out A2 y.length cp2 _ y rfl rfl HP3.out.lies HP3.out.nil hgy hz3 ?_; intro v4 w4 hr4 hb4; have HR4 := Lib.hid hr4; have HB4 := Lib.hid hb4; clear hr4 hb4)))
    go_ret2
    exact ⟨_, rfl, HR4.out.mono (bxG_bel H2.out).size, (bxG_bel H3.out).trans (HB4.out.mono (bxG_bel H2.out).size)⟩
  · rw [if_neg h0]
    have d0 : (rG x != 0) = true := zb_of (by simpa using h0)
    obtain ⟨z, hz⟩ : ∃ z, z = rG x := ⟨_, rfl⟩
    rw [← hz] at HR d0 ⊢
    clear h0 hz hT oi hl
    go_enter Tryz.func17, Tryz.ntmps17
    go_wp2_with (go_at_call 33; go_must ((with_reducible refine HR.out.mono ?_); rintro e w1 ⟨rfl, hb⟩; have H1 := Lib.hid (bxG_on H0.out hb); clear hb))
    go_ret2
    exact ⟨_, rfl, Row.nil _ _, bxG_bel H1.out⟩
/-- A string that a function makes: nothing old turned. -/
theorem rcount_gl (n : Nat) (w : World) (hn : n ≤ 1000000) : Calls Tryz.prog 12 #[.int .i64 n] w fun e w' => e = .returned (.string (S (lebL n))) ∧ Below w.heap.size w w' := by
  have HC := Lib.hid (fun w => count_any (n : Int) w (by omega) (by omega))
  generalize lebL (n : Int) = y at *
  go_enter Tryz.func12, Tryz.ntmps12
  go_wp2_with (go_at_call 27; go_must ((with_reducible refine (HC.out _).mono ?_); rintro e w1 ⟨rfl, hb⟩; have HB := Lib.hid hb; clear hb))
  go_ret
  exact ⟨rfl, HB.out⟩
set_option maxHeartbeats 8000000 in
theorem rput_gl (x : Gl) (A : Option Addr) (c : Nat) (w : World) (oi : x.i.Ok) (h0 : rG x = 0) :
    Calls Tryz.prog 14 #[glV x A c] w fun e w' => e = .returned (.string (S (gputL x))) ∧ Below w.heap.size w w' := by
  have hz := (rG_zero h0).2
  have H0 := Lib.hid (bxG_start w x A c)
  have hcl := cputL_len oi hz
  have HE := Lib.hid (fun W => refEncG_any x.t.toNat x.m W (by omega) (u8_le _))
  have HP := Lib.hid (fun W => show Calls Tryz.prog 31 #[insV x.i A c] W fun e w' => e = .returned (.string (S (cputL x.i))) ∧ Below W.heap.size W w' from rcput_any x.i A c W oi (cr_zero hz).1 (by rw [cz_nil hz]; intro j v hv; simp [cells32] at hv))
  have he2 : (encG x.t.toNat x.m).length = 2 := rfl
  have hsp : gputL x = encG x.t.toNat x.m ++ cputL x.i := rfl
  rw [hsp]
  generalize cputL x.i = y at *
  generalize encG (x.t.toNat : Int) x.m = g at *
  have sg := S_size g
  have sy := S_size y
  have q1 : ¬ 9223372036854775807 < (S g).size + (S y).size := by omega
  have HSA := Lib.hid (S_append g y)
  clear hz hcl hsp h0 oi sg sy he2
  go_enter Tryz.func14, Tryz.ntmps14
  go_wp2
  go_region_held3 (fun W => BxG w w.heap.size x A c W) (first | assumption | exact bxG_on H0.out (Below.refl _ _).drew)
    (first
      | (go_at_call 30; (with_reducible refine (HE.out _).mono ?_); rintro e w1 ⟨rfl, hb⟩; have hk1 := bxG_on ‹_› hb; clear hb)
      | (go_at_call 31; (with_reducible refine (HP.out _).mono ?_); rintro e w2 ⟨rfl, hb⟩; have hk2 := bxG_on ‹_› hb; clear hb))
  go_wp2
  go_ret
  exact ⟨by rw [← HSA.out]; rfl, bxG_bel hk2⟩
end Go.Proofs.YticgmfeihdankaaGreatDoor

/- Globals that lie somewhere; rows of globals of the call's own. -/
namespace Go.Proofs.YticgmfeihdankaaGreatDoor
open Go.RowKit
set_option linter.unusedVariables false
set_option maxRecDepth 100000

/-- A global and where its labels lie. -/
abbrev SlotG := Gl × Option Addr × Nat
abbrev sC (x : SlotG) : Array Value := glC x.1 x.2.1 x.2.2
abbrev sV (x : SlotG) : Value := .agg (sC x)
def sL (x : SlotG) : List Value := (sC x).toList
theorem infoGl : (Tryz.prog.info? 46).map (fun i => (i.zero, i.size, i.bytes)) = some (some (.agg glZ), 6, 56) := by kernel_rfl
/-- A row of globals of the call's own. -/
def RowG (W : World) (base : Nat) (v : Value) (rows : List SlotG) : Prop := W.ownsRow base 46 6 v rows.length (rows.flatMap sL)
theorem RowG.nil (W : World) (base : Nat) : RowG W base (.slice none 0 0) [] := World.ownsRow_nil W base _ 6
theorem RowG.slice {W : World} {base : Nat} {v : Value} {rows : List SlotG} (h : RowG W base v rows) : ∃ A c, v = .slice A rows.length c := by
  rcases h.2 with ⟨rfl, h0⟩ | ⟨g, cap, cur, rfl, _⟩
  · exact ⟨none, 0, by rw [h0]⟩
  · exact ⟨_, cap, rfl⟩
theorem RowG.past {W W' : World} {base b : Nat} {v : Value} {rows : List SlotG} (h : RowG W base v rows) (hg : W.grownBy W' (some b)) (hb : b < base) : RowG W' base v rows :=
  World.ownsRow.kept h hg (by
    cases hv : v.ownBlock with
    | none => exact .inl rfl
    | some k => exact .inr (by have := (World.ownsRow.lt h k hv).1; simp only [ne_eq, Option.some.injEq]; omega))
theorem RowG.later {W W' : World} {base : Nat} {v : Value} {rows : List SlotG} (h : RowG W base v rows) (hb : Below W.heap.size W W') : RowG W' base v rows :=
  World.ownsRow.kept h (gb_of_below none hb) (by cases v.ownBlock with
    | none => exact .inl rfl
    | some k => exact .inr (by simp))
theorem RowG.alloc {W : World} {base : Nat} {v : Value} {rows : List SlotG} (h : RowG W base v rows) (o : Obj) : RowG (W.alloc o) base v rows := World.ownsRow.alloc h o
theorem RowG.mono {W : World} {base base' : Nat} {v : Value} {rows : List SlotG} (h : RowG W base v rows) (hb : base' ≤ base) : RowG W base' v rows := by
  obtain ⟨h1, h2⟩ := h
  refine ⟨h1, ?_⟩
  rcases h2 with h2 | ⟨g, cap, cur, e, hg, r⟩
  · exact .inl h2
  · exact .inr ⟨g, cap, cur, e, Nat.le_trans hb hg, r⟩
/-- append of a new block of one export. -/
theorem rowG_new {w : World} {ops : Array Oper} {rest : List Oper} {o : Oper} {a : Act} {Q : Exit → Act → World → Prop} (hgd : o.guard = none) (s x : Operand)
    (ho : o.op = .call { callee := .builtin .append, args := #[s, x], argTypes := #[29, 29] })
    (B : Nat) (v : Value) (l : List SlotG) (hs : a.eval s = v) (hr : RowG w B v l) (g : Nat) (r : SlotG) (hx : a.eval x = .slice (some ⟨g, 0, none⟩) 1 1)
    (hg : Whole w g 46 (sC r)) (hb : l.length ≤ 10000) (hB : B ≤ w.heap.size)
    (h : ∀ v' w', RowG w' B v' (l ++ [r]) → w.grownBy w' v.ownBlock → wpList Tryz.prog ops Q rest (a.put o.dst v') w') : wpList Tryz.prog ops Q (o :: rest) a w := by
  obtain ⟨i0, hi0, hz0, hz1, hz2⟩ := info_parts infoGl
  refine wpList_append_own _ hgd s x _ ho B 46 i0 _ 6 56 Tryz.underlying29 hi0 hz0 hz1 hz2 rfl (by omega) v _ _ hs hr ⟨g, 0, none⟩ 1 1 (sL r) hx rfl ?_ ?_ (by unfold maxLen; omega) (by omega) hB (fun v' w' h2 h3 _ => h v' w' ?_ h3)
  · intro j u hu
    rw [Go.WideShapes.add_plain, Nat.zero_add, hg.cell, ← Array.getElem?_toList]
    exact hu
  · intro u hu
    unfold sL at hu
    simp only [List.mem_cons, List.not_mem_nil, or_false] at hu
    rcases hu with rfl | rfl | rfl | rfl | rfl | rfl <;> rfl
  · unfold RowG
    rw [List.length_append, List.flatMap_append]
    simpa using h2
/-- Nothing old has turned, and nothing of the row's own is lost. -/
theorem RowG.below {w W W' : World} {base : Nat} {v : Value} {rows : List SlotG} (h : RowG W base v rows) (hB : base ≤ W.heap.size) (hg : W.grownBy W' v.ownBlock) : Below base W W' :=
  Below.grown (Below.refl _ _) hg hB (fun k hk => (World.ownsRow.lt h k hk).1)

/-- The slice at A reads as these globals. -/
def Gs (w : World) (A : Option Addr) (l : List SlotG) : Prop :=
  ∀ j x, l[j]? = some x → ∃ b off, A = some ⟨b, off, none⟩ ∧ b < w.heap.size ∧ ∀ u, u < 6 → w.cell? ⟨b, off + j * 6 + u, none⟩ = (sL x)[u]?
theorem Gs.below {w w' : World} {A : Option Addr} {l : List SlotG} (h : Gs w A l) (hb : Below w.heap.size w w') : Gs w' A l := fun j x hx => by
  obtain ⟨b, off, e, h1, h2⟩ := h j x hx
  exact ⟨b, off, e, Nat.lt_of_lt_of_le h1 hb.size, fun u hu => (hb.cell (p := ⟨b, _, none⟩) h1).trans (h2 u hu)⟩
/-- The six cells of one of them, as a walk writes them. -/
abbrev SixAt (w : World) (b : Nat) (o : Nat) (x : SlotG) : Prop := w.cell? ⟨b, o, none⟩ = some (.int .u8 x.1.t.toNat) ∧ w.cell? ⟨b, o + 1, none⟩ = some (.bool x.1.m) ∧ w.cell? ⟨b, o + 2, none⟩ = some (.int .u8 x.1.i.op.toNat) ∧ w.cell? ⟨b, o + 3, none⟩ = some (.int .u64 x.1.i.a) ∧ w.cell? ⟨b, o + 4, none⟩ = some (.int .u64 x.1.i.b) ∧ w.cell? ⟨b, o + 5, none⟩ = some (.slice x.2.1 x.1.i.l.length x.2.2)
theorem Gs.six {w : World} {A : Option Addr} {l : List SlotG} (h : Gs w A l) {k : Nat} {x : SlotG} (hx : l[k]? = some x) : ∃ b off, A = some ⟨b, off, none⟩ ∧ b < w.heap.size ∧ SixAt w b (off + k * 6) x := by
  obtain ⟨b, off, e, h1, h2⟩ := h k x hx
  exact ⟨b, off, e, h1, h2 0 (by omega), h2 1 (by omega), h2 2 (by omega), h2 3 (by omega), h2 4 (by omega), h2 5 (by omega)⟩
theorem flatG_get : ∀ (l : List SlotG) (j : Nat) (x : SlotG) (u : Nat), l[j]? = some x → u < 6 → (l.flatMap sL)[j * 6 + u]? = (sL x)[u]?
  | [], j, x, u, h, _ => by cases h
  | y :: l, 0, x, u, h, hu => by
    injection h with h
    subst h
    rw [List.flatMap_cons, Nat.zero_mul, Nat.zero_add, List.getElem?_append_left (by show u < 6; exact hu)]
  | y :: l, j + 1, x, u, h, hu => by
    rw [List.flatMap_cons, List.getElem?_append_right (by show 6 ≤ _; omega)]
    have e : (j + 1) * 6 + u - (sL y).length = j * 6 + u := by show (j + 1) * 6 + u - 6 = _; omega
    rw [e]
    exact flatG_get l j x u h hu
/-- What a row of globals reads as. -/
theorem RowG.gs {W : World} {base : Nat} {A : Option Addr} {n c : Nat} {rows : List SlotG} (h : RowG W base (.slice A n c) rows) : Gs W A rows := fun j x hx => by
  have hj := (List.getElem?_eq_some_iff.1 hx).1
  rcases h.2 with ⟨_, h0⟩ | ⟨g, cap, cur, e, _, hg, _, _, _, ht⟩
  · omega
  · injection e with e1 e2 e3
    exact ⟨g, 0, e1, (Array.getElem?_eq_some_iff.1 hg).1, fun u hu => by
      rw [cell_of_row W g (0 + j * 6 + u) cur _ _ hg, ← flatG_get rows j x u hx hu, ← ht, List.getElem?_take, if_pos (by omega)]
      simp⟩
end Go.Proofs.YticgmfeihdankaaGreatDoor
