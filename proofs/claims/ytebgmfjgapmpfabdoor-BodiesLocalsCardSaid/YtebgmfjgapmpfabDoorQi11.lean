/- consts.Read of any bytes. -/
import Derived.Test.YtebgmfjgapmpfabDoorQi10
import Derived.Test.YtebgmfjgapmpfabDoorQi09
import Derived.Test.YtebgmfjgapmpfabDoorQi08
import Derived.Test.YtebgmfjgapmpfabDoorQi02
import Derived.Test.YtebgmfjgapmpfabDoorQi04
import Derived.Test.YtebgmfjgapmpfabDoorQi07
import Derived.RegionTactic
namespace Go.Proofs.YtebgmfjgapmpfabDoor
open Go.RowKit
set_option linter.unusedVariables false
set_option maxRecDepth 100000

/-- How far Read has come: its result's block, the instruction's box, the scanner. -/
structure RdS (w : World) (p : Nat) (l : List UInt8) (H2 : Nat) (i : I) (A : Option Addr) (c k : Nat) (W : World) : Prop where
  res : Whole W w.heap.size 37 #[.int .u8 0, .int .u64 0, .int .u64 0, .slice none 0 0]
  box : Whole W H2 37 (insC i A c)
  sc : Sc W p l k
  gr : w.grownBy W (some p)
  hp : p < w.heap.size
  h2 : w.heap.size < H2
  tb : TbP p W
  ty : LabT W A i.l
  far : ∀ a, A = some a → w.heap.size ≤ a.block
section
variable {w : World} {p : Nat} {l : List UInt8} {H2 : Nat} {i : I} {A : Option Addr} {c k k' : Nat} {W W' : World}
theorem Sc.whole {w : World} {p : Nat} {l : List UInt8} {k : Nat} (h : Sc w p l k) : ∃ cs, Whole w p 71 cs := by
  obtain ⟨A, cap, h1, _⟩ := h
  exact ⟨_, h1⟩
theorem RdS.call (h : RdS w p l H2 i A c k W) (hs : Sc W' p l k') (hg : W.grownBy W' (some p)) : RdS w p l H2 i A c k' W' := by
  have a := h.hp
  have b := h.h2
  obtain ⟨cs, hw⟩ := h.sc.whole
  exact ⟨h.res.grown hg (by simp only [ne_eq, Option.some.injEq]; omega), h.box.grown hg (by simp only [ne_eq, Option.some.injEq]; omega), hs, gb_trans h.gr hg, h.hp, h.h2, h.tb.self hg, h.ty.keep hg (h.ty.apart hw (by decide)), h.far⟩
theorem RdS.below (h : RdS w p l H2 i A c k W) (hb : Below W.heap.size W W') : RdS w p l H2 i A c k W' := h.call (h.sc.below hb) (gb_of_below _ hb)
theorem RdS.fin (h : RdS w p l H2 i A c k W) (W4 : World) (hW : W4 = (((W.setCell ⟨w.heap.size, 0, none⟩ (.int .u8 i.op.toNat)).setCell ⟨w.heap.size, 1, none⟩ (.int .u64 i.a)).setCell ⟨w.heap.size, 2, none⟩ (.int .u64 i.b)).setCell ⟨w.heap.size, 3, none⟩ (.slice A i.l.length c)) :
    Whole W4 w.heap.size 37 (insC i A c) ∧ Gets p l i k w (.returned (insV i A c)) W4 := by
  subst hW
  have a := h.hp
  have b := h.h2
  have hg := gb_put (p := ⟨w.heap.size, 3, none⟩) (gb_put (p := ⟨w.heap.size, 2, none⟩) (gb_put (p := ⟨w.heap.size, 1, none⟩) (gb_put (p := ⟨w.heap.size, 0, none⟩) (gb_refl W (some w.heap.size)) (.inl rfl) (.int .u8 i.op.toNat)) (.inl rfl) (.int .u64 i.a)) (.inl rfl) (.int .u64 i.b)) (.inl rfl) (.slice A i.l.length c)
  have hty := h.ty.keep hg (h.ty.apart h.res (by decide))
  exact ⟨(((h.res.put 0 (.int .u8 i.op.toNat)).put 1 (.int .u64 i.a)).put 2 (.int .u64 i.b)).put 3 (.slice A i.l.length c),
    A, c, rfl, hty.lies, h.far, h.sc.grown hg (by simp only [ne_eq, Option.some.injEq]; omega) (fun g e => by injection e with e; omega), gb_before h.gr hg (fun g e => .inr (by injection e with e; omega)), hty⟩
end
set_option maxHeartbeats 4000000 in
theorem cread_any {w : World} {p : Nat} {l : List UInt8} {k : Nat} (hs : Sc w p l k) (hT : TbP p w) :
    Calls Tryd.prog 52 #[.pointer (some ⟨p, 0, none⟩)] w (GetsR p l (readR l k) w) := by
  have hlt := hs.lt
  have HZ : Hid (Sc (w.alloc (.cells #[.int .u8 0, .int .u64 0, .int .u64 0, .slice none 0 0] 37)) p l k ∧ TbP p (w.alloc (.cells #[.int .u8 0, .int .u64 0, .int .u64 0, .slice none 0 0] 37))) := ⟨hs.alloc _, hT.below (below_box w _) (by omega)⟩
  have hG := getA_any HZ.out.1 HZ.out.2
  have HAT := Lib.hid (at_any HZ.out.1)
  unfold readR
  cases hr : getR l k with
  | err ec ea =>
    rw [hr] at hG
    rw [Res.bind_err]
    show Calls _ _ _ _ (fun e w' => e = .panicked (stopP ec ea) ∧ w.grownBy w' (some p))
    have HG := Lib.hid hG
    clear hs hT hG hr HZ
    go_enter Tryd.func52, Tryd.ntmps52
    go_wp2_with (first
      | (go_at_call 54; go_must ((with_reducible refine HAT.out.mono ?_); rintro e w' ⟨rfl, rfl⟩))
      | (go_at_call 75; go_must ((with_reducible refine HG.out.mono ?_); rintro e w1 ⟨rfl, hg⟩; have HGE := Lib.hid hg; clear hg)))
    exact ⟨rfl, rfl, gb_trans (gb_alloc (gb_refl w _) _) HGE.out⟩
  | ok i k1 =>
    rw [hr] at hG
    rw [Res.bind_ok]
    obtain ⟨oi, hl10, hk1⟩ := getR_ok hr
    have HG := Lib.hid (show Calls Tryd.prog 75 #[.pointer (some ⟨p, 0, none⟩)] (w.alloc (.cells #[.int .u8 0, .int .u64 0, .int .u64 0, .slice none 0 0] 37)) (Gets p l i k1 (w.alloc (.cells #[.int .u8 0, .int .u64 0, .int .u64 0, .slice none 0 0] 37))) from hG)
    have HWM := Lib.hid (Whole.made w 37 #[.int .u8 0, .int .u64 0, .int .u64 0, .slice none 0 0])
    have hstart : ∀ w1 (A : Option Addr) (c : Nat), Sc w1 p l k1 → (w.alloc (.cells #[.int .u8 0, .int .u64 0, .int .u64 0, .slice none 0 0] 37)).grownBy w1 (some p) → LabT w1 A i.l → (∀ a, A = some a → (w.alloc (.cells #[.int .u8 0, .int .u64 0, .int .u64 0, .slice none 0 0] 37)).heap.size ≤ a.block) →
        RdS w p l w1.heap.size i A c k1 (w1.alloc (.cells (insC i A c) 37)) := fun w1 A c hs1 hg1 hty hfar => by
      have hz := hg1.size
      rw [size_box] at hz
      exact ⟨(HWM.out.grown hg1 (by simp only [ne_eq, Option.some.injEq]; omega)).alloc _, Whole.made _ _ _, hs1.alloc _, gb_alloc (gb_trans (gb_alloc (gb_refl w _) _) hg1) _, hlt, by omega, (HZ.out.2.self hg1).below (below_box w1 _) (by omega), hty.keep (gb_of_below none (below_box w1 _)) (fun a e => by simp), fun a ha => by have := hfar a ha; rw [size_box] at this; omega⟩
    have HST := Lib.hid hstart
    have HCR := Lib.hid (fun W (A : Option Addr) (c : Nat) (h : Tabs W) => cright_any i A c W oi h (by omega))
    clear hs hT hG hr hstart hl10 hk1 oi
    obtain ⟨z, hz⟩ : ∃ z, z = crightZ i := ⟨_, rfl⟩
    rw [← hz] at HCR ⊢
    clear hz
    by_cases h0 : z = 0
    · subst h0
      rw [if_pos rfl]
      have hB := fun W (h : Sc W p l k1) => byte_any h
      have HA1 := Lib.hid (fun W (h : Sc W p l k1) => at_any h)
      cases hb : byteR l k1 with
      | err ec ea =>
        rw [Res.bind_err]
        show Calls _ _ _ _ (fun e w' => e = .panicked (stopP ec ea) ∧ w.grownBy w' (some p))
        have HB := Lib.hid (fun W (h : Sc W p l k1) => show Calls Tryd.prog 74 #[.pointer (some ⟨p, 0, none⟩)] W (Did encB p l W (.err ec ea)) from by have := hB W h; rw [hb] at this; exact this)
        clear hB hb HZ
        go_enter Tryd.func52, Tryd.ntmps52
        go_wp2_with (first
          | (have tok := HG2; go_at_call 54; go_must ((with_reducible refine (HA1.out _ HG2.out.sc).mono ?_); rintro e w' ⟨rfl, rfl⟩))
          | (go_at_call 54; go_must ((with_reducible refine HAT.out.mono ?_); rintro e w' ⟨rfl, rfl⟩))
          | (go_at_call 75; go_must ((with_reducible refine HG.out.mono ?_); intro e w1 hq; obtain ⟨A, c, rfl, hla, hfar, hs, hg, hty⟩ := hq; have HG1 := Lib.hid (HST.out w1 A c hs hg hty hfar); have c0 := HG1.out.box.cell 0; have c1 := HG1.out.box.cell 1; have c2 := HG1.out.box.cell 2; have c3 := HG1.out.box.cell 3; simp only [List.getElem?_toArray, List.getElem?_cons_zero, List.getElem?_cons_succ] at c0 c1 c2 c3; clear hla hfar hs hg hty))
          | (go_at_call 26; go_must ((with_reducible refine (HCR.out _ _ _ HG1.out.tb.tabs).mono ?_); rintro e w2 ⟨rfl, hb2⟩; have HG2 := Lib.hid (HG1.out.below hb2); clear hb2))
          | (go_at_call 55; go_must ((with_reducible refine (unlessT _ _ _).mono ?_); rintro e w' ⟨rfl, rfl⟩))
          | (go_at_call 74; go_must ((with_reducible refine (HB.out _ HG2.out.sc).mono ?_); rintro e w3 ⟨rfl, hg⟩; have HGE := Lib.hid hg; clear hg)))
        exact ⟨rfl, rfl, gb_trans HG2.out.gr HGE.out⟩
      | ok d k2 =>
        rw [Res.bind_ok]
        have HB := Lib.hid (fun W (h : Sc W p l k1) => show Calls Tryd.prog 74 #[.pointer (some ⟨p, 0, none⟩)] W (Did encB p l W (.ok d k2)) from by have := hB W h; rw [hb] at this; exact this)
        clear hB hb HZ
        by_cases hd : d = 11
        · rw [if_pos hd]
          show Calls _ _ _ _ (Gets p l i k2 w)
          have dd : ((d.toNat : Int) == 11) = true := by rw [hd]; rfl
          clear hd
          go_enter Tryd.func52, Tryd.ntmps52
          go_wp2_with (first
            | (have tok := HG2; go_at_call 54; go_must ((with_reducible refine (HA1.out _ HG2.out.sc).mono ?_); rintro e w' ⟨rfl, rfl⟩))
            | (go_at_call 54; go_must ((with_reducible refine HAT.out.mono ?_); rintro e w' ⟨rfl, rfl⟩))
            | (go_at_call 75; go_must ((with_reducible refine HG.out.mono ?_); intro e w1 hq; obtain ⟨A, c, rfl, hla, hfar, hs, hg, hty⟩ := hq; have HG1 := Lib.hid (HST.out w1 A c hs hg hty hfar); have c0 := HG1.out.box.cell 0; have c1 := HG1.out.box.cell 1; have c2 := HG1.out.box.cell 2; have c3 := HG1.out.box.cell 3; have hh := HG1.out.h2; have n1 : ¬ w1.heap.size = w.heap.size := (by omega); have n2 : ¬ w.heap.size = w1.heap.size := (by omega); simp only [List.getElem?_toArray, List.getElem?_cons_zero, List.getElem?_cons_succ] at c0 c1 c2 c3; clear hla hfar hs hg hty hh))
            | (go_at_call 26; go_must ((with_reducible refine (HCR.out _ _ _ HG1.out.tb.tabs).mono ?_); rintro e w2 ⟨rfl, hb2⟩; have HG2 := Lib.hid (HG1.out.below hb2); clear hb2 c0 c1 c2 c3))
            | (go_at_call 55; go_must ((with_reducible refine (unlessT _ _ _).mono ?_); rintro e w' ⟨rfl, rfl⟩))
            | (go_at_call 74; go_must ((with_reducible refine (HB.out _ HG2.out.sc).mono ?_); rintro e w3 ⟨rfl, hs, hg⟩; have HG3 := Lib.hid (HG2.out.call hs hg); have c0 := HG3.out.box.cell 0; have c1 := HG3.out.box.cell 1; have c2 := HG3.out.box.cell 2; have c3 := HG3.out.box.cell 3; have r0 := HG3.out.res.cell 0; have r1 := HG3.out.res.cell 1; have r2 := HG3.out.res.cell 2; have r3 := HG3.out.res.cell 3; have z0 := HG3.out.res.frozen 0; have z1 := HG3.out.res.frozen 1; have z2 := HG3.out.res.frozen 2; have z3 := HG3.out.res.frozen 3; simp only [List.getElem?_toArray, List.getElem?_cons_zero, List.getElem?_cons_succ] at c0 c1 c2 c3 r0 r1 r2 r3; clear hs hg)))
          obtain ⟨q4, hf⟩ := HG3.out.fin _ rfl
          have q0 := q4.cell 0
          have q1 := q4.cell 1
          have q2 := q4.cell 2
          have q3 := q4.cell 3
          simp only [List.getElem?_toArray, List.getElem?_cons_zero, List.getElem?_cons_succ] at q0 q1 q2 q3
          exact bodyPost_ret (v := insV i A c) (by simp [results, Tryd.results52, go_sem, q0, q1, q2, q3]) rfl hf
        · rw [if_neg hd]
          show Calls _ _ _ _ (fun e w' => e = .panicked (stopP 12 k1) ∧ w.grownBy w' (some p))
          have dd : ((d.toNat : Int) == 11) = false := by
            have : d.toNat ≠ 11 := fun e => hd (UInt8.toNat_inj.1 (by rw [e]; rfl))
            simp; omega
          clear hd
          go_enter Tryd.func52, Tryd.ntmps52
          go_wp2_with (first
            | (have tok := HG2; go_at_call 54; go_must ((with_reducible refine (HA1.out _ HG2.out.sc).mono ?_); rintro e w' ⟨rfl, rfl⟩))
            | (go_at_call 54; go_must ((with_reducible refine HAT.out.mono ?_); rintro e w' ⟨rfl, rfl⟩))
            | (go_at_call 75; go_must ((with_reducible refine HG.out.mono ?_); intro e w1 hq; obtain ⟨A, c, rfl, hla, hfar, hs, hg, hty⟩ := hq; have HG1 := Lib.hid (HST.out w1 A c hs hg hty hfar); have c0 := HG1.out.box.cell 0; have c1 := HG1.out.box.cell 1; have c2 := HG1.out.box.cell 2; have c3 := HG1.out.box.cell 3; simp only [List.getElem?_toArray, List.getElem?_cons_zero, List.getElem?_cons_succ] at c0 c1 c2 c3; clear hla hfar hs hg hty))
            | (go_at_call 26; go_must ((with_reducible refine (HCR.out _ _ _ HG1.out.tb.tabs).mono ?_); rintro e w2 ⟨rfl, hb2⟩; have HG2 := Lib.hid (HG1.out.below hb2); clear hb2))
            | (have tok := HG3; go_at_call 55; go_must ((with_reducible refine (unlessF _ _ _).mono ?_); rintro e w' ⟨rfl, rfl⟩))
            | (go_at_call 55; go_must ((with_reducible refine (unlessT _ _ _).mono ?_); rintro e w' ⟨rfl, rfl⟩))
            | (go_at_call 74; go_must ((with_reducible refine (HB.out _ HG2.out.sc).mono ?_); rintro e w3 ⟨rfl, hs, hg⟩; have HG3 := Lib.hid (HG2.out.call hs hg); clear hs hg)))
          exact ⟨rfl, rfl, HG3.out.gr⟩
    · rw [if_neg h0]
      show Calls _ _ _ _ (fun e w' => e = .panicked (stopP z k) ∧ w.grownBy w' (some p))
      have dz : (z == 0) = false := by simpa using h0
      clear h0 HZ
      go_enter Tryd.func52, Tryd.ntmps52
      go_wp2_with (first
        | (go_at_call 54; go_must ((with_reducible refine HAT.out.mono ?_); rintro e w' ⟨rfl, rfl⟩))
        | (go_at_call 75; go_must ((with_reducible refine HG.out.mono ?_); intro e w1 hq; obtain ⟨A, c, rfl, hla, hfar, hs, hg, hty⟩ := hq; have HG1 := Lib.hid (HST.out w1 A c hs hg hty hfar); have c0 := HG1.out.box.cell 0; have c1 := HG1.out.box.cell 1; have c2 := HG1.out.box.cell 2; have c3 := HG1.out.box.cell 3; simp only [List.getElem?_toArray, List.getElem?_cons_zero, List.getElem?_cons_succ] at c0 c1 c2 c3; clear hla hfar hs hg hty))
        | (go_at_call 26; go_must ((with_reducible refine (HCR.out _ _ _ HG1.out.tb.tabs).mono ?_); rintro e w2 ⟨rfl, hb2⟩; have HG2 := Lib.hid (HG1.out.below hb2); clear hb2))
        | (go_at_call 55; go_must ((with_reducible refine (unlessF _ _ _).mono ?_); rintro e w' ⟨rfl, rfl⟩)))
      exact ⟨rfl, rfl, HG2.out.gr⟩
end Go.Proofs.YtebgmfjgapmpfabDoor

/- segment.GetHead, elems.Get of any bytes. -/
namespace Go.Proofs.YtebgmfjgapmpfabDoor
open Go.RowKit
set_option linter.unusedVariables false
set_option maxRecDepth 100000

/-- A segment's beginning; an element segment. -/
noncomputable def headR (l : List UInt8) (k : Nat) : Res I := (noughtR l k).bind fun _ k1 => readR l k1
noncomputable def elR (l : List UInt8) (k : Nat) : Res El := (headR l k).bind fun i k1 => (labelsR l k1).bind fun fs k2 => .ok ⟨i, fs⟩ k2
set_option maxHeartbeats 4000000 in
theorem gethead_any {w : World} {p : Nat} {l : List UInt8} {k : Nat} (h : Sc w p l k) (hT : TbP p w) :
    Calls Tryd.prog 30 #[.pointer (some ⟨p, 0, none⟩)] w (GetsR p l (headR l k) w) := by
  have hp := h.lt
  have hN := getNought_any (h.alloc (.cells #[.int .u8 0, .int .u64 0, .int .u64 0, .slice none 0 0] 37))
  have HT0 := Lib.hid (hT.below (below_box w (.cells #[.int .u8 0, .int .u64 0, .int .u64 0, .slice none 0 0] 37)) (Nat.le_of_lt hp))
  have HWM := Lib.hid (Whole.made w 37 #[.int .u8 0, .int .u64 0, .int .u64 0, .slice none 0 0])
  unfold headR
  cases h1 : noughtR l k with
  | err ec ea =>
    rw [h1] at hN
    rw [Res.bind_err]
    show Calls _ _ _ _ (fun e w' => e = .panicked (stopP ec ea) ∧ w.grownBy w' (some p))
    have HN := Lib.hid hN
    clear hN h1 h hT
    go_enter Tryd.func30, Tryd.ntmps30
    go_wp2_with (go_at_call 51; go_must ((with_reducible refine HN.out.mono ?_); rintro e w1 ⟨rfl, hg⟩; have HG1 := Lib.hid hg; clear hg))
    exact ⟨rfl, rfl, gb_trans (gb_alloc (gb_refl w _) _) HG1.out⟩
  | ok u k1 =>
    rw [h1] at hN
    rw [Res.bind_ok]
    have HN := Lib.hid hN
    clear hN h1 h hT
    have hC := fun W (hs : Sc W p l k1) (ht : TbP p W) => cread_any hs ht
    cases h2 : readR l k1 with
    | err ec ea =>
      rw [h2] at hC
      show Calls _ _ _ _ (fun e w' => e = .panicked (stopP ec ea) ∧ w.grownBy w' (some p))
      have HC := Lib.hid (fun W (hs : Sc W p l k1) (ht : TbP p W) => show Calls Tryd.prog 52 #[.pointer (some ⟨p, 0, none⟩)] W (fun e w' => e = .panicked (stopP ec ea) ∧ W.grownBy w' (some p)) from hC W hs ht)
      clear hC h2
      go_enter Tryd.func30, Tryd.ntmps30
      go_wp2_with (first
        | (go_at_call 51; go_must ((with_reducible refine HN.out.mono ?_); rintro e w1 ⟨rfl, hs, hg⟩; have HS1 := Lib.hid hs; have HG1 := Lib.hid hg; clear hs hg))
        | (go_at_call 52; go_must ((with_reducible refine (HC.out _ HS1.out (HT0.out.self HG1.out)).mono ?_); rintro e w2 ⟨rfl, hg⟩; have HG2 := Lib.hid hg; clear hg)))
      exact ⟨rfl, rfl, gb_trans (gb_trans (gb_alloc (gb_refl w _) _) HG1.out) HG2.out⟩
    | ok i k2 =>
      rw [h2] at hC
      have HC := Lib.hid (fun W (hs : Sc W p l k1) (ht : TbP p W) => show Calls Tryd.prog 52 #[.pointer (some ⟨p, 0, none⟩)] W (Gets p l i k2 W) from hC W hs ht)
      clear hC h2
      go_enter Tryd.func30, Tryd.ntmps30
      go_wp2_with (first
        | (go_at_call 51; go_must ((with_reducible refine HN.out.mono ?_); rintro e w1 ⟨rfl, hs, hg⟩; have HS1 := Lib.hid hs; have HG1 := Lib.hid hg; have HW1 := Lib.hid (HWM.out.grown hg (by simp only [ne_eq, Option.some.injEq]; omega)); clear hs hg))
        | (go_at_call 52; go_must ((with_reducible refine (HC.out _ HS1.out (HT0.out.self HG1.out)).mono ?_); intro e w2 hq; obtain ⟨A, c, rfl, hla, hfar, hs, hg, hty⟩ := hq; have HS2 := Lib.hid hs; have HG2 := Lib.hid hg; have HTY := Lib.hid hty; have HF := Lib.hid hfar; have HW2 := Lib.hid (HW1.out.grown hg (by simp only [ne_eq, Option.some.injEq]; omega)); have z0 := HW2.out.cell 0; have z1 := HW2.out.cell 1; have z2 := HW2.out.cell 2; have z3 := HW2.out.cell 3; simp only [List.getElem?_toArray, List.getElem?_cons_zero, List.getElem?_cons_succ] at z0 z1 z2 z3; have f0 := HW2.out.frozen 0; have f1 := HW2.out.frozen 1; have f2 := HW2.out.frozen 2; have f3 := HW2.out.frozen 3; clear hla hfar hs hg hty)))
      obtain ⟨h1, h2⟩ := put4 (u0 := .int .u8 i.op.toNat) (u1 := .int .u64 i.a) (u2 := .int .u64 i.b) (u3 := .slice A i.l.length c) HW2.out
      have q0 := h1.cell 0
      have q1 := h1.cell 1
      have q2 := h1.cell 2
      have q3 := h1.cell 3
      simp only [List.getElem?_toArray, List.getElem?_cons_zero, List.getElem?_cons_succ] at q0 q1 q2 q3
      have hz1 := HG1.out.size
      rw [size_box] at hz1
      have hty := HTY.out.keep h2 (HTY.out.apart HW2.out (by decide))
      refine bodyPost_ret (v := insV i A c) (by simp [results, Tryd.results30, go_sem, q0, q1, q2, q3]) rfl ?_
      exact ⟨A, c, rfl, hty.lies, fun a ha => by have := HF.out a ha; omega, HS2.out.grown h2 (by simp only [ne_eq, Option.some.injEq]; omega) (fun g e => by injection e with e; omega), gb_before (gb_trans (gb_trans (gb_alloc (gb_refl w _) _) HG1.out) HG2.out) h2 (fun g e => .inr (by injection e with e; omega)), hty⟩
/-- What Get leaves behind. -/
def GotEl (p : Nat) (l : List UInt8) (r : Res El) (w : World) (e : Ending) (w' : World) : Prop := match r with
  | .ok x k => ∃ A c F f, e = .returned (elV x A c F f) ∧ Sc w' p l k ∧ w.grownBy w' (some p) ∧ LabT w' F x.fs ∧ ∀ a, F = some a → w.heap.size ≤ a.block
  | .err c a => e = .panicked (stopP c a) ∧ w.grownBy w' (some p)
section
variable {w W W' : World} {q bt : Nat} {i : I} {A : Option Addr} {c : Nat}
end
end Go.Proofs.YtebgmfjgapmpfabDoor

/- The reference's Count and creelref13.Get, whatever the reader's state. (By gen/genElRef.py.) -/
namespace Go.Proofs.YtebgmfjgapmpfabDoor
open Go.RowKit
set_option linter.unusedVariables false
set_option maxRecDepth 100000

section
variable {w : World} {q : Nat} {l : List UInt8} {bt : Nat} {i : I} {A : Option Addr} {c : Nat} {s s' : RSt} {W W' : World} {vb v v' : Value} {acc : List Int}
end
theorem count_startS {l : List UInt8} {s : RSt} : ∃ (n : Nat) (s0 : RSt), n ≤ 10000 ∧ (vZ (s.bind (countR l)) = n ∧ stOf (s.bind (countR l)) = s0) ∧ Inv32 l n 0 s0 [] (s.bind (labelsR l)) := by
  cases s with
  | «at» k => exact count_start
  | bad c a => exact ⟨0, .bad c a, by omega, ⟨rfl, rfl⟩, rfl⟩
theorem el_fin {l : List UInt8} {X : Res I} {i : I} (hi : ∀ y k, X = .ok y k → i = y) : (X.bind fun i k1 => (labelsR l k1).bind fun fs k2 => .ok (⟨i, fs⟩ : El) k2) = ((stOf X).bind (labelsR l)).bind fun fs k2 => .ok (⟨i, fs⟩ : El) k2 := by
  cases X with
  | err c a => rfl
  | ok y k =>
    obtain rfl := hi y k rfl
    rfl
end Go.Proofs.YtebgmfjgapmpfabDoor

/- Data segments as plain data; datas.Right; creelref15.Count, Right. -/
namespace Go.Proofs.YtebgmfjgapmpfabDoor
open Go.RowKit
set_option linter.unusedVariables false
set_option maxRecDepth 100000

/-- A data segment: its offset, its bytes. -/
structure Da where
  i : I
  bs : List UInt8
/-- Its cells, its labels at A. -/
abbrev daC (x : Da) (A : Option Addr) (c : Nat) : Array Value := #[.int .u8 x.i.op.toNat, .int .u64 x.i.a, .int .u64 x.i.b, .slice A x.i.l.length c, .string (S x.bs)]
abbrev daV (x : Da) (A : Option Addr) (c : Nat) : Value := .agg (daC x A c)
/-- The zero value's cells. -/
abbrev daZ : Array Value := #[.int .u8 0, .int .u64 0, .int .u64 0, .slice none 0 0, .string { data := #[] }]
abbrev FiveDa (W : World) (b : Nat) (x : Da) (A : Option Addr) (c : Nat) : Prop :=
  W.cell? ⟨b, 0, none⟩ = some (.int .u8 x.i.op.toNat) ∧ W.cell? ⟨b, 1, none⟩ = some (.int .u64 x.i.a) ∧ W.cell? ⟨b, 2, none⟩ = some (.int .u64 x.i.b) ∧ W.cell? ⟨b, 3, none⟩ = some (.slice A x.i.l.length c) ∧ W.cell? ⟨b, 4, none⟩ = some (.string (S x.bs))
theorem Whole.da {w : World} {b : Nat} {t : TypeId} {x : Da} {A : Option Addr} {c : Nat} (h : Whole w b t (daC x A c)) : FiveDa w b x A c := ⟨h.cell 0, h.cell 1, h.cell 2, h.cell 3, h.cell 4⟩
/-- A block that holds a segment, in a world grown from B: what is held of it. -/
abbrev BxDa (B : World) (b : Nat) (x : Da) (A : Option Addr) (c : Nat) (W : World) : Prop := (Whole W b 39 (daC x A c) ∧ Below B.heap.size B W) ∧ FiveDa W b x A c
section
variable {B W W' : World} {b : Nat} {x : Da} {A : Option Addr} {c : Nat}
theorem bxDa_on (h : BxDa B b x A c W) (hb : Below W.heap.size W W') : BxDa B b x A c W' := ⟨⟨h.1.1.below hb, h.1.2.trans (hb.mono h.1.2.size)⟩, (h.1.1.below hb).da⟩
theorem bxDa_start (w : World) (x : Da) (A : Option Addr) (c : Nat) : BxDa w w.heap.size x A c (w.alloc (.cells (daC x A c) 39)) := ⟨⟨Whole.made _ _ _, below_box _ _⟩, (Whole.made w 39 (daC x A c)).da⟩
theorem bxDa_bel (h : BxDa B b x A c W) : Below B.heap.size B W := h.1.2
end
set_option maxHeartbeats 2000000 in
theorem daright_any (x : Da) (A : Option Addr) (c : Nat) (w : World) (oi : x.i.Ok) (hT : Tabs w) (hl : (x.i.l.length : Int) ≤ 9223372036854775807) (hn : x.bs.length ≤ 10000) :
    Calls Tryd.prog 13 #[daV x A c] w fun e w' => e = .returned (.int .i64 (crightZ x.i)) ∧ Below w.heap.size w w' := by
  have H0 := Lib.hid (bxDa_start w x A c)
  have HC := Lib.hid (cright_any x.i A c (w.alloc (.cells (daC x A c) 39)) oi (hT.below (below_box w _)) hl)
  have s1 := S_size x.bs
  have d1 : decide ((4194304 : Int) < (x.bs.length : Int)) = false := decide_eq_false (by omega)
  clear hT oi hl hn
  go_enter Tryd.func13, Tryd.ntmps13
  go_wp2_with (go_at_call 26; go_must ((with_reducible refine HC.out.mono ?_); rintro e w1 ⟨rfl, hb⟩; have H1 := Lib.hid (bxDa_on H0.out hb); clear hb))
  go_ret
  exact ⟨rfl, bxDa_bel H1.out⟩
set_option maxHeartbeats 2000000 in
theorem rdaright_any (x : Da) (A : Option Addr) (c : Nat) (w : World) (oi : x.i.Ok) (hl : (x.i.l.length : Int) ≤ 9223372036854775807) :
    Calls Tryd.prog 11 #[daV x A c] w fun e w' => e = .returned (.int .i64 (crightZ x.i)) ∧ Below w.heap.size w w' := by
  have H0 := Lib.hid (bxDa_start w x A c)
  have HC := Lib.hid (rcright_any x.i A c (w.alloc (.cells (daC x A c) 39)) oi hl)
  clear oi hl
  go_enter Tryd.func11, Tryd.ntmps11
  go_wp2_with (go_at_call 23; go_must ((with_reducible refine HC.out.mono ?_); rintro e w1 ⟨rfl, hb⟩; have H1 := Lib.hid (bxDa_on H0.out hb); clear hb))
  go_ret
  exact ⟨rfl, bxDa_bel H1.out⟩
end Go.Proofs.YtebgmfjgapmpfabDoor

/- bytes.Clone of any slice; Scanner.Bytes; wire.Part of any bytes (the same as in sect/Name, sect/Next, sect/NextB). -/
namespace Go.Proofs.YtebgmfjgapmpfabDoor
open Go.RowKit Go.Lib
set_option linter.unusedVariables false
set_option maxRecDepth 100000

/-- bytes.Clone of any slice. -/
theorem clone_all {w : World} {A : Option Addr} {cap : Nat} {l : List UInt8} (hl : Lies w w.heap.size A (cells (nums l))) (hc : l.length ≤ 1000000) :
    Calls Tryd.prog 27 #[.slice A l.length cap] w (BytesL l w) := by
  by_cases h0 : 0 < l.length
  · exact clone_ok hl h0 hc
  · have hl0 : l = [] := List.eq_nil_of_length_eq_zero (by omega)
    subst hl0
    cases A with
    | none =>
      show Calls Tryd.prog 27 #[.slice none 0 cap] w (BytesL [] w)
      have hnil : ∀ w : World, (binOp BinOp.eql 41 (.slice none 0 cap) (.slice none 0 0)).run Tryd.prog w = .ok (.bool true) w := fun w => by
        simp only [binOp]
        simp [run_equal_slice_nil w 41 5 _ _ _ Tryd.underlying41]
      clear hl h0 hc
      go_enter Tryd.func27, Tryd.ntmps27
      go_wp2
      go_ret
      exact ⟨_, rfl, Row.nil _ _, Below.refl _ _⟩
    | some ad =>
      show Calls Tryd.prog 27 #[.slice (some ad) 0 cap] w (BytesL [] w)
      have hnil : ∀ w : World, (binOp BinOp.eql 41 (.slice (some ad) 0 cap) (.slice none 0 0)).run Tryd.prog w = .ok (.bool false) w := fun w => by
        simp only [binOp]
        simp [run_equal_slice_nil w 41 5 _ _ _ Tryd.underlying41]
      have R0 := Lib.hid (Row.made w [] w.heap.size w.heap.size rfl (Nat.le_refl _) (by simp))
      have HL := Lib.hid (hl.below (below_box w (.cells #[] 5)) (Nat.le_refl _))
      clear hl h0 hc
      go_enter Tryd.func27, Tryd.ntmps27
      go_wp2_with (at_builtin; (refine row_any rfl _ _ rfl w.heap.size _ [] rfl R0.out (some ad) 0 cap _ [] rfl rfl HL.out (fun e => by cases e) (by simp) (by simp) ?_; intro v2 w2 hr2 hb2; have HR2 := Lib.hid hr2; have HB2 := Lib.hid hb2; clear hr2 hb2))
      go_ret
      exact ⟨_, rfl, HR2.out, (below_box w _).trans HB2.out⟩
/-- Bytes: those that come next, in a row of their own. -/
def Byted (p : Nat) (l : List UInt8) (k n : Nat) (w : World) (e : Ending) (w' : World) : Prop :=
  ∃ v, e = .returned v ∧ Row w' w.heap.size v ((l.drop k).take n) ∧ Sc w' p l (k + n) ∧ w.grownBy w' (some p)
theorem bytes_ok {w : World} {p : Nat} {l : List UInt8} {k : Nat} (h : Sc w p l k) (n : Nat) (hn : k + n ≤ l.length) (hc : l.length ≤ 1000000) :
    Calls Tryd.prog 32 #[.pointer (some ⟨p, 0, none⟩), .int .i64 n] w (Byted p l k n w) := by
  have HT := Lib.hid (take_ok h n hn)
  have hlen : ((l.drop k).take n).length = n := by rw [List.length_take, List.length_drop]; omega
  obtain ⟨t, ht⟩ : ∃ t, t = (l.drop k).take n := ⟨_, rfl⟩
  have HE := Lib.hid ht
  rw [← ht] at hlen
  subst hlen
  have HC := Lib.hid (fun (W : World) (A : Option Addr) (c : Nat) (hl : Lies W W.heap.size A (cells (nums t))) => clone_all (cap := c) hl (by omega))
  have HP := Lib.hid h.lt
  clear h hn hc ht
  go_enter Tryd.func32, Tryd.ntmps32
  go_wp2_with (first
    | (go_at_call 57; go_must ((with_reducible refine HT.out.mono ?_); rintro e w1 ⟨A, c, rfl, h1, h2, hl, hs, hg⟩; rw [← HE.out] at hl; have HL := Lib.hid (hl.more (Nat.le_of_lt hs.lt)); have HS := Lib.hid hs; have HG := Lib.hid hg; clear hl hs hg h1 h2))
    | (go_at_call 27; go_must ((with_reducible refine (HC.out _ _ _ HL.out).mono ?_); intro e w2 h; obtain ⟨v, rfl, hr, hb⟩ := h; have HR := Lib.hid hr; have HB := Lib.hid hb; clear hr hb)))
  go_ret
  have hz := HG.out.size
  exact ⟨v, rfl, by rw [← HE.out]; exact HR.out.mono hz, HS.out.below HB.out, gb_before HG.out (gb_of_below (some p) HB.out) (fun g e => .inl e)⟩

theorem uintR_lt {l : List UInt8} {k n : Nat} {v : Int} {k' : Nat} (h : uintR l k n = .ok v k') : k < k' := by
  unfold uintR at h
  repeat' split at h
  all_goals first | (injection h with h1 h2; omega) | cases h
/-- How many bytes follow, and where they begin. -/
noncomputable def contR (l : List UInt8) (k : Nat) : Res Nat := (indexR l k).bind fun v k' => if k' + v.toNat ≤ l.length then .ok v.toNat k' else .err 2 k'
theorem contR_ok {l : List UInt8} {k n k' : Nat} (h : contR l k = .ok n k') : k < k' ∧ k' + n ≤ l.length := by
  unfold contR at h
  cases hr : indexR l k with
  | ok v k2 =>
    rw [hr, Res.bind_ok] at h
    split at h
    · injection h with h1 h2; subst h1; subst h2; exact ⟨uintR_lt (show uintR l k 32 = .ok v k2 from hr), by assumption⟩
    · cases h
  | err c2 a => rw [hr, Res.bind_err] at h; cases h
theorem contR_err {l : List UInt8} {k : Nat} {c a : Int} (h : contR l k = .err c a) : c ≠ 0 := by
  unfold contR at h
  cases hr : indexR l k with
  | ok v k2 =>
    rw [hr, Res.bind_ok] at h
    split at h
    · cases h
    · injection h with h1 h2; omega
  | err c2 a2 =>
    rw [hr, Res.bind_err] at h
    injection h with h1 h2
    have := (uintR_err (show uintR l k 32 = .err c2 a2 from hr)).2
    omega
/-- What contents leaves behind. -/
def Cont (p : Nat) (l : List UInt8) (w : World) (r : Res Nat) (e : Ending) (w' : World) : Prop := match r with
  | .ok n k => ∃ q, e = .returned (.tuple #[.pointer (some ⟨q, 0, none⟩), .int .i64 k]) ∧ w.heap.size ≤ q ∧ Sc w' q ((l.drop k).take n) 0 ∧ Sc w' p l (k + n) ∧ w.grownBy w' (some p)
  | .err c a => e = .panicked (stopP c a) ∧ w.grownBy w' (some p)
set_option maxHeartbeats 800000 in
theorem cont_sect {w : World} {p : Nat} {l : List UInt8} {k : Nat} (h : Sc w p l k) :
    Calls Tryd.prog 31 #[.pointer (some ⟨p, 0, none⟩)] w (Cont p l w (contR l k)) := by
  have hN := index_scan h
  have hle := h.le.2
  unfold contR
  cases hr : indexR l k with
  | ok v k' =>
    rw [hr] at hN
    rw [Res.bind_ok]
    have HN := Lib.hid hN
    obtain ⟨hk, v0, v1⟩ := uintR_ok (show uintR l k 32 = .ok v k' from hr)
    obtain ⟨n, rfl⟩ : ∃ n : Nat, v = n := ⟨v.toNat, by omega⟩
    have v2 : (n : Int) < 4294967296 := v1
    have w1 : IntKind.u64.wrap (n : Int) = n := by simp [IntKind.wrap, IntKind.bits, IntKind.signed]; omega
    have w2 : IntKind.u64.wrap ((l.length : Int) - k') = (l.length : Int) - k' := by simp [IntKind.wrap, IntKind.bits, IntKind.signed]; omega
    have w3 : IntKind.i64.wrap (n : Int) = n := by rw [IntKind.wrap_i64]; omega
    rw [Int.toNat_natCast]
    clear hN hr h v0 v1
    by_cases hm : k' + n ≤ l.length
    · rw [if_pos hm]
      have d1 : decide ((n : Int) ≤ (l.length : Int) - k') = true := by simp; omega
      have d2 : (n : Int) ≤ (l.length : Int) - k' := by omega
      have HSu := Lib.hid (fun (W : World) (hs : Sc W p l k') => sub_ok hs n hm)
      clear hm
      go_enter Tryd.func31, Tryd.ntmps31
      go_wp2_with (first
        | (go_at_call 53; go_must ((with_reducible refine HN.out.mono ?_); rintro e w1 ⟨rfl, hs, hg⟩; have HS := Lib.hid hs; have HG := Lib.hid hg; clear hs hg))
        | (go_at_call 54; go_must ((with_reducible refine (at_any HS.out).mono ?_); rintro e w2 ⟨rfl, rfl⟩))
        | (go_at_call 20; go_must ((with_reducible refine (left_any HS.out).mono ?_); rintro e w2 ⟨rfl, m, rfl⟩))
        | (go_at_call 55; go_must ((with_reducible refine (unlessT _ _ _).mono ?_); rintro e w' ⟨rfl, rfl⟩))
        | (go_at_call 56; go_must ((with_reducible refine (HSu.out _ (HS.out.drewN m)).mono ?_); rintro e w3 ⟨q, rfl, hq, hs1, hs2, hg2⟩; have HQ := Lib.hid hq; have HS1 := Lib.hid hs1; have HS2 := Lib.hid hs2; have HG2 := Lib.hid (gb_trans (gb_drewN HG.out m) hg2); clear hq hs1 hs2 hg2)))
      go_ret2
      exact ⟨q, rfl, Nat.le_trans HG.out.size HQ.out, HS1.out, HS2.out, HG2.out⟩
    · rw [if_neg hm]
      have d1 : decide ((n : Int) ≤ (l.length : Int) - k') = false := by simp; omega
      have d2 : ¬ (n : Int) ≤ (l.length : Int) - k' := by omega
      clear hm
      go_enter Tryd.func31, Tryd.ntmps31
      go_wp2_with (first
        | (go_at_call 53; go_must ((with_reducible refine HN.out.mono ?_); rintro e w1 ⟨rfl, hs, hg⟩; have HS := Lib.hid hs; have HG := Lib.hid hg; clear hs hg))
        | (go_at_call 54; go_must ((with_reducible refine (at_any HS.out).mono ?_); rintro e w2 ⟨rfl, rfl⟩))
        | (go_at_call 20; go_must ((with_reducible refine (left_any HS.out).mono ?_); rintro e w2 ⟨rfl, m, rfl⟩))
        | (go_at_call 55; go_must ((with_reducible refine (unlessF _ _ _).mono ?_); rintro e w' ⟨rfl, rfl⟩)))
      exact ⟨rfl, rfl, gb_drewN HG.out m⟩
  | err c2 a =>
    rw [hr] at hN
    rw [Res.bind_err]
    have HN := Lib.hid hN
    clear hN hr h
    go_enter Tryd.func31, Tryd.ntmps31
    go_wp2_with (go_at_call 53; go_must ((with_reducible refine HN.out.mono ?_); rintro e w1 ⟨rfl, hg⟩; have HG := Lib.hid hg; clear hg))
    exact ⟨rfl, rfl, HG.out⟩
theorem left_nat {w : World} {p : Nat} {l : List UInt8} {k : Nat} (h : Sc w p l k) :
    Calls Tryd.prog 20 #[.pointer (some ⟨p, 0, none⟩)] w fun e w' => e = .returned (.int .i64 ((l.length - k : Nat) : Int)) ∧ ∃ m, w' = w.drewN m :=
  (left_any h).mono fun e w' h1 => ⟨by rw [h1.1]; congr 2; have := h.le; omega, h1.2⟩
theorem Row.past {w w' : World} {B b : Nat} {v : Value} {xs : List UInt8} (h : Row w B v xs) (hg : w.grownBy w' (some b)) (hb : b < B) : Row w' B v xs :=
  World.ownsRow.kept h hg (by
    cases hv : v.ownBlock with
    | none => exact .inl rfl
    | some k => exact .inr (by have := (World.ownsRow.lt h k hv).1; simp only [ne_eq, Option.some.injEq]; omega))
theorem Row.slice {w : World} {B : Nat} {v : Value} {xs : List UInt8} (h : Row w B v xs) : ∃ A c, v = .slice A xs.length c := by
  obtain ⟨A, c, e, _⟩ := lies_own h
  exact ⟨A, c, e⟩
/-- Bytes of all that is left. -/
theorem bytes_rest {W : World} {q : Nat} {part y : List UInt8} {j : Nat} (h : Sc W q part j) (hy : y = part.drop j) (hj : j ≤ part.length) (hp : part.length ≤ 1000000) :
    Calls Tryd.prog 32 #[.pointer (some ⟨q, 0, none⟩), .int .i64 ((part.length - j : Nat) : Int)] W fun e w' => ∃ A c, e = .returned (.slice A y.length c) ∧ Row w' W.heap.size (.slice A y.length c) y ∧ Sc w' q part (j + (part.length - j)) ∧ W.grownBy w' (some q) :=
  (bytes_ok h (part.length - j) (by omega) hp).mono fun e w' ⟨v, h1, h2, h3, h4⟩ => by
    rw [show (part.drop j).take (part.length - j) = y by rw [hy]; exact List.take_of_length_le (by rw [List.length_drop]; omega)] at h2
    obtain ⟨A, c, rfl⟩ := h2.slice
    exact ⟨A, c, h1, h2, h3, h4⟩
/-- Left, Bytes of all, at the beginning. -/
theorem left_all {W : World} {q : Nat} {part : List UInt8} (h : Sc W q part 0) :
    Calls Tryd.prog 20 #[.pointer (some ⟨q, 0, none⟩)] W fun e w' => e = .returned (.int .i64 (part.length : Int)) ∧ ∃ m, w' = W.drewN m :=
  (left_nat h).mono fun e w' h1 => h1
theorem bytes_all {W : World} {q : Nat} {part : List UInt8} (h : Sc W q part 0) (hp : part.length ≤ 1000000) :
    Calls Tryd.prog 32 #[.pointer (some ⟨q, 0, none⟩), .int .i64 (part.length : Int)] W fun e w' => ∃ A c, e = .returned (.slice A part.length c) ∧ Row w' W.heap.size (.slice A part.length c) part ∧ Sc w' q part part.length ∧ W.grownBy w' (some q) :=
  (bytes_rest (y := part) h rfl (Nat.zero_le _) hp).mono fun e w' ⟨A, c, h1, h2, h3, h4⟩ => ⟨A, c, h1, h2, by rw [Nat.zero_add, Nat.sub_zero] at h3; exact h3, h4⟩
end Go.Proofs.YtebgmfjgapmpfabDoor

/- datas.Get of any bytes. -/
namespace Go.Proofs.YtebgmfjgapmpfabDoor
open Go.RowKit
set_option linter.unusedVariables false
set_option maxRecDepth 100000

/-- A data segment. -/
noncomputable def daR (l : List UInt8) (k : Nat) : Res Da := (headR l k).bind fun i k1 => (contR l k1).bind fun n k2 => .ok ⟨i, (l.drop k2).take n⟩ (k2 + n)
/-- What Get leaves behind. -/
def GotDa (p : Nat) (l : List UInt8) (r : Res Da) (w : World) (e : Ending) (w' : World) : Prop := match r with
  | .ok x k => ∃ A c, e = .returned (daV x A c) ∧ Sc w' p l k ∧ w.grownBy w' (some p)
  | .err c a => e = .panicked (stopP c a) ∧ w.grownBy w' (some p)
/-- Get once the offset is read: the result's block, the offset's box; what the reader at q turns. -/
structure GBDa (w : World) (q bt : Nat) (i : I) (A : Option Addr) (c : Nat) (W : World) : Prop where
  res : Whole W w.heap.size 39 daZ
  bx : Whole W bt 37 (insC i A c)
  gr : w.grownBy W (some q)
  hp : q < w.heap.size
  lt : w.heap.size < bt
section
variable {w W W' : World} {q bt : Nat} {i : I} {A : Option Addr} {c : Nat}
theorem GBDa.call (h : GBDa w q bt i A c W) (hg : W.grownBy W' (some q)) : GBDa w q bt i A c W' := by
  have a := h.hp
  have b := h.lt
  exact ⟨h.res.grown hg (by simp only [ne_eq, Option.some.injEq]; omega), h.bx.grown hg (by simp only [ne_eq, Option.some.injEq]; omega), gb_trans h.gr hg, a, b⟩
theorem GBDa.start {w w1 : World} (hp : q < w.heap.size) (hg : (w.alloc (.cells daZ 39)).grownBy w1 (some q)) : GBDa w q w1.heap.size i A c (w1.alloc (.cells (insC i A c) 37)) := by
  have hz := hg.size
  rw [size_box] at hz
  exact ⟨((Whole.made w _ _).grown hg (by simp only [ne_eq, Option.some.injEq]; omega)).alloc _, Whole.made _ _ _, gb_alloc (gb_trans (gb_alloc (gb_refl w _) _) hg) _, hp, by omega⟩
theorem GBDa.fin {x0 x1 x2 x3 x4 : Value} (h : GBDa w q bt i A c W) :
    Whole (((((W.setCell ⟨w.heap.size, 0, none⟩ x0).setCell ⟨w.heap.size, 1, none⟩ x1).setCell ⟨w.heap.size, 2, none⟩ x2).setCell ⟨w.heap.size, 3, none⟩ x3).setCell ⟨w.heap.size, 4, none⟩ x4) w.heap.size 39 #[x0, x1, x2, x3, x4] ∧
    W.grownBy (((((W.setCell ⟨w.heap.size, 0, none⟩ x0).setCell ⟨w.heap.size, 1, none⟩ x1).setCell ⟨w.heap.size, 2, none⟩ x2).setCell ⟨w.heap.size, 3, none⟩ x3).setCell ⟨w.heap.size, 4, none⟩ x4) (some w.heap.size) ∧
    w.grownBy (((((W.setCell ⟨w.heap.size, 0, none⟩ x0).setCell ⟨w.heap.size, 1, none⟩ x1).setCell ⟨w.heap.size, 2, none⟩ x2).setCell ⟨w.heap.size, 3, none⟩ x3).setCell ⟨w.heap.size, 4, none⟩ x4) (some q) := by
  obtain ⟨h1, h2⟩ := put5 (u0 := x0) (u1 := x1) (u2 := x2) (u3 := x3) (u4 := x4) h.res
  have := h.hp
  exact ⟨h1, h2, gb_before h.gr h2 (fun g e => .inr (by injection e with e; omega))⟩
end
/-- .. and the part's scanner. -/
structure GPDa (w : World) (p bt : Nat) (i : I) (A : Option Addr) (c : Nat) (q : Nat) (l : List UInt8) (k : Nat) (part : List UInt8) (j : Nat) (W : World) : Prop where
  gb : GBDa w p bt i A c W
  sp : Sc W p l k
  sq : Sc W q part j
  oq : bt < q
section
variable {w W W' : World} {p bt q k j j' : Nat} {i : I} {A : Option Addr} {c : Nat} {l part : List UInt8}
theorem GPDa.drewN (h : GPDa w p bt i A c q l k part j W) (m : Nat) : GPDa w p bt i A c q l k part j (W.drewN m) := ⟨h.gb.call (gb_drewN (gb_refl W _) m), h.sp.drewN m, h.sq.drewN m, h.oq⟩
theorem GPDa.onq (h : GPDa w p bt i A c q l k part j W) (hg : W.grownBy W' (some q)) (hs : Sc W' q part j') : GPDa w p bt i A c q l k part j' W' := by
  obtain ⟨⟨a1, a2, a3, a4, a5⟩, b, d, o⟩ := h
  exact ⟨⟨a1.grown hg (by simp only [ne_eq, Option.some.injEq]; omega), a2.grown hg (by simp only [ne_eq, Option.some.injEq]; omega), gb_before a3 hg (fun g e => .inr (by injection e with e; omega)), a4, a5⟩, b.grown hg (by simp only [ne_eq, Option.some.injEq]; omega) (fun g e => by injection e with e; omega), hs, o⟩
end
set_option maxHeartbeats 4000000 in
theorem get_da {w : World} {p : Nat} {l : List UInt8} {k : Nat} (h : Sc w p l k) (hT : TbP p w) (hl : l.length ≤ 1000000) :
    Calls Tryd.prog 17 #[.pointer (some ⟨p, 0, none⟩)] w (GotDa p l (daR l k) w) := by
  have hp := h.lt
  have hG := gethead_any (h.alloc (.cells daZ 39)) (hT.below (below_box w (.cells daZ 39)) (Nat.le_of_lt hp))
  unfold daR
  cases h1 : headR l k with
  | err ec ea =>
    rw [h1] at hG
    rw [Res.bind_err]
    show Calls _ _ _ _ (fun e w' => e = .panicked (stopP ec ea) ∧ w.grownBy w' (some p))
    have HG := Lib.hid hG
    clear hG h1 h hT
    go_enter Tryd.func17, Tryd.ntmps17
    go_wp2_with (go_at_call 30; go_must ((with_reducible refine HG.out.mono ?_); rintro e w1 ⟨rfl, hg⟩; have HG1 := Lib.hid hg; clear hg))
    exact ⟨rfl, rfl, gb_trans (gb_alloc (gb_refl w _) _) HG1.out⟩
  | ok i k1 =>
    rw [h1] at hG
    rw [Res.bind_ok]
    have HG := Lib.hid (show Calls Tryd.prog 30 #[.pointer (some ⟨p, 0, none⟩)] (w.alloc (.cells daZ 39)) (Gets p l i k1 (w.alloc (.cells daZ 39))) from hG)
    clear hG h1 h hT
    have hC := fun W (hs : Sc W p l k1) => cont_sect hs
    cases h2 : contR l k1 with
    | err ec ea =>
      rw [h2] at hC
      rw [Res.bind_err]
      show Calls _ _ _ _ (fun e w' => e = .panicked (stopP ec ea) ∧ w.grownBy w' (some p))
      have HC := Lib.hid (fun W (hs : Sc W p l k1) => show Calls Tryd.prog 31 #[.pointer (some ⟨p, 0, none⟩)] W (fun e w' => e = .panicked (stopP ec ea) ∧ W.grownBy w' (some p)) from hC W hs)
      clear hC h2
      go_enter Tryd.func17, Tryd.ntmps17
      go_wp2_with (first
        | (go_at_call 30; go_must ((with_reducible refine HG.out.mono ?_); intro e w1 hq; obtain ⟨A, c, rfl, _, _, hs, hg, _⟩ := hq; have HGB := Lib.hid (GBDa.start (i := i) (A := A) (c := c) hp hg); have HS1 := Lib.hid (hs.alloc (.cells (insC i A c) 37)); clear hs hg))
        | (go_at_call 31; go_must ((with_reducible refine (HC.out _ HS1.out).mono ?_); rintro e w2 ⟨rfl, hg⟩; have HG2 := Lib.hid hg; clear hg)))
      exact ⟨rfl, rfl, gb_trans HGB.out.gr HG2.out⟩
    | ok n k2 =>
      rw [h2] at hC
      rw [Res.bind_ok]
      obtain ⟨hk1, hk2⟩ := contR_ok h2
      have HC := Lib.hid (fun W (hs : Sc W p l k1) => show Calls Tryd.prog 31 #[.pointer (some ⟨p, 0, none⟩)] W (fun e w' => ∃ q, e = .returned (.tuple #[.pointer (some ⟨q, 0, none⟩), .int .i64 k2]) ∧ W.heap.size ≤ q ∧ Sc w' q ((l.drop k2).take n) 0 ∧ Sc w' p l (k2 + n) ∧ W.grownBy w' (some p)) from hC W hs)
      have hpl : ((l.drop k2).take n).length = n := by rw [List.length_take, List.length_drop]; omega
      obtain ⟨part, hpart⟩ : ∃ part, part = (l.drop k2).take n := ⟨_, rfl⟩
      rw [← hpart] at hpl HC ⊢
      have hpm : part.length ≤ 1000000 := by omega
      clear hC h2 hpart
      subst hpl
      go_enter Tryd.func17, Tryd.ntmps17
      go_wp2_with (first
        | (go_at_call 30; go_must ((with_reducible refine HG.out.mono ?_); intro e w1 hq; obtain ⟨A, c, rfl, _, _, hs, hg, _⟩ := hq; have HGB := Lib.hid (GBDa.start (i := i) (A := A) (c := c) hp hg); have HS1 := Lib.hid (hs.alloc (.cells (insC i A c) 37)); have hz1 := size_box w1 (.cells (insC i A c) 37); clear hs hg))
        | (go_at_call 31; go_must ((with_reducible refine (HC.out _ HS1.out).mono ?_); rintro e W ⟨q, rfl, hqz, hs1, hs2, hg⟩; have HGP := Lib.hid (show GPDa w p w1.heap.size i A c q l (k2 + part.length) part 0 W from ⟨HGB.out.call hg, hs2, hs1, by omega⟩); clear hqz hs1 hs2 hg)))
      generalize w1.heap.size = bt at *
      have HLF := Lib.hid (left_all (show Sc W.drew q part 0 from HGP.out.sq.drewN 1))
      have HBY := Lib.hid (fun m => bytes_all (show Sc (W.drewN (1 + m)) q part 0 from HGP.out.sq.drewN (1 + m)) hpm)
      have x0 := HGP.out.gb.bx.cell 0
      have x1 := HGP.out.gb.bx.cell 1
      have x2 := HGP.out.gb.bx.cell 2
      have x3 := HGP.out.gb.bx.cell 3
      simp only [List.getElem?_toArray, List.getElem?_cons_zero, List.getElem?_cons_succ] at x0 x1 x2 x3
      clear HC HS1 HGB HG hz1
      go_region_with (first
        | (go_at_call 20; (with_reducible refine HLF.out.mono ?_); rintro e w4 ⟨rfl, m, rfl⟩)
        | (go_at_call 32; (with_reducible refine (HBY.out m).mono ?_); intro e w5 hq; obtain ⟨A5, c5, rfl, hr5, hs5, hg5⟩ := hq; have HG5 := Lib.hid ((HGP.out.drewN (1 + m)).onq hg5 hs5); obtain ⟨A6, c6, e5, _, _, hl5, _⟩ := lies_own hr5; injection e5 with e5a e5b e5c; subst e5a; subst e5c; have hcv := str_any hl5 c5 9 Tryd.underlying9; have y0 := HG5.out.gb.bx.cell 0; have y1 := HG5.out.gb.bx.cell 1; have y2 := HG5.out.gb.bx.cell 2; have y3 := HG5.out.gb.bx.cell 3; simp only [List.getElem?_toArray, List.getElem?_cons_zero, List.getElem?_cons_succ] at y0 y1 y2 y3; have f0 := HG5.out.gb.res.frozen 0; have f1 := HG5.out.gb.res.frozen 1; have f2 := HG5.out.gb.res.frozen 2; have f3 := HG5.out.gb.res.frozen 3; have f4 := HG5.out.gb.res.frozen 4; have z0 := HG5.out.gb.res.cell 0; have z1 := HG5.out.gb.res.cell 1; have z2 := HG5.out.gb.res.cell 2; have z3 := HG5.out.gb.res.cell 3; have z4 := HG5.out.gb.res.cell 4; simp only [List.getElem?_toArray, List.getElem?_cons_zero, List.getElem?_cons_succ] at z0 z1 z2 z3 z4; clear hr5 hs5 hg5 hl5))
      all_goals
        go_wp2
        obtain ⟨h1, h2, h3⟩ := GBDa.fin (x0 := .int .u8 i.op.toNat) (x1 := .int .u64 i.a) (x2 := .int .u64 i.b) (x3 := .slice A i.l.length c) (x4 := .string (S part)) HG5.out.gb
        obtain ⟨q0, q1, q2, q3, q4⟩ := Whole.da (x := ⟨i, part⟩) h1
        have hs3 := HG5.out.sp.grown h2 (by have := HG5.out.gb.hp; simp only [ne_eq, Option.some.injEq]; omega) (fun g e => by have := HG5.out.gb.hp; injection e with e; omega)
        exact bodyPost_ret (v := daV ⟨i, part⟩ A c) (by simp [results, Tryd.results17, go_sem, q0, q1, q2, q3, q4]) rfl ⟨A, c, rfl, hs3, h3⟩
end Go.Proofs.YtebgmfjgapmpfabDoor

/- The reference's Bytes and creelref15.Get, whatever the reader's state. (By gen/genDaRef.py.) -/
namespace Go.Proofs.YtebgmfjgapmpfabDoor
open Go.RowKit
set_option linter.unusedVariables false
set_option maxRecDepth 100000

/-- The state behind so many bytes. -/
def takenS (l : List UInt8) (n : Nat) : RSt → RSt
  | .at k => if k + n ≤ l.length then .at (k + n) else .bad 2 k
  | .bad c a => .bad c a
section
variable {w : World} {q : Nat} {l : List UInt8} {bt : Nat} {i : I} {A : Option Addr} {c : Nat} {s s' : RSt} {W W' : World} {v v' : Value}
end
/-- The number of bytes, the state behind it, the state behind the bytes. -/
theorem da_fin {l : List UInt8} (X : Res I) : ∃ (n : Nat) (s4 : RSt), n ≤ 4294967295 ∧ vZ ((stOf X).bind (indexR l)) = n ∧ stOf ((stOf X).bind (indexR l)) = s4 ∧
    stOf (X.bind fun i k1 => (contR l k1).bind fun m k2 => .ok (⟨i, (l.drop k2).take m⟩ : Da) (k2 + m)) = takenS l n s4 ∧
    ∀ (i : I) (t : List UInt8), (∀ y k, X = .ok y k → i = y) → (∀ k, s4 = .at k → k + n ≤ l.length → t = (l.drop k).take n) → ∀ y k, (X.bind fun i k1 => (contR l k1).bind fun m k2 => .ok (⟨i, (l.drop k2).take m⟩ : Da) (k2 + m)) = .ok y k → (⟨i, t⟩ : Da) = y := by
  cases X with
  | err c a => exact ⟨0, .bad c a, by omega, rfl, rfl, rfl, fun i t _ _ y k e => by cases e⟩
  | ok j k1 =>
    rw [Res.bind_ok]
    show ∃ (n : Nat) (s4 : RSt), n ≤ 4294967295 ∧ vZ (indexR l k1) = n ∧ stOf (indexR l k1) = s4 ∧ stOf ((contR l k1).bind fun m k2 => .ok (⟨j, (l.drop k2).take m⟩ : Da) (k2 + m)) = takenS l n s4 ∧
      ∀ (i : I) (t : List UInt8), (∀ y k, Res.ok j k1 = .ok y k → i = y) → (∀ k, s4 = .at k → k + n ≤ l.length → t = (l.drop k).take n) → ∀ y k, ((contR l k1).bind fun m k2 => .ok (⟨j, (l.drop k2).take m⟩ : Da) (k2 + m)) = .ok y k → (⟨i, t⟩ : Da) = y
    unfold contR
    cases hr : indexR l k1 with
    | err c a => exact ⟨0, .bad c a, by omega, rfl, rfl, rfl, fun i t _ _ y k e => by cases e⟩
    | ok v k2 =>
      obtain ⟨_, v0, v1⟩ := indexR_ok hr
      obtain ⟨n, rfl⟩ : ∃ n : Nat, v = n := ⟨v.toNat, by omega⟩
      rw [Res.bind_ok, Int.toNat_natCast]
      refine ⟨n, .at k2, by omega, rfl, rfl, ?_, ?_⟩
      · show _ = (if k2 + n ≤ l.length then RSt.at (k2 + n) else RSt.bad 2 k2 : RSt)
        by_cases hm : k2 + n ≤ l.length
        · rw [if_pos hm, if_pos hm]; rfl
        · rw [if_neg hm, if_neg hm]; rfl
      · intro i t hi ht y k e
        obtain rfl := hi _ _ rfl
        by_cases hm : k2 + n ≤ l.length
        · rw [if_pos hm, Res.bind_ok] at e
          injection e with e1 e2
          rw [ht k2 rfl hm]
          exact e1
        · rw [if_neg hm, Res.bind_err] at e
          cases e
end Go.Proofs.YtebgmfjgapmpfabDoor

/- slices.Equal of labels; instr.Same; the reference's Same. -/
namespace Go.Proofs.YtebgmfjgapmpfabDoor
open Go.RowKit
set_option linter.unusedVariables false
set_option maxRecDepth 100000

def LiesL (w : World) (A : Option Addr) (l : List Int) : Prop := Lies w w.heap.size A (cells32 l)
theorem LiesL.below {w w' : World} {A : Option Addr} {l : List Int} (h : LiesL w A l) (hb : Below w.heap.size w w') : LiesL w' A l := (Lies.below h hb (Nat.le_refl _)).more hb.size
theorem LiesL.at {w : World} {A : Option Addr} {l : List Int} (h : LiesL w A l) {i : Nat} {d : Int} (hd : l[i]? = some d) : ∃ b off, A = some ⟨b, off, none⟩ ∧ b < w.heap.size ∧ w.cell? ⟨b, off + i, none⟩ = some (.int .u32 d) := by
  obtain ⟨b, off, e, hb, hc⟩ := h i _ (cells32_get hd)
  exact ⟨b, off, e, hb, hc⟩
/-- The first k of two lists are the same. -/
def Eqs (a b : List Int) (k : Nat) : Prop := ∀ j, j < k → a[j]? = b[j]?
theorem Eqs.all {a b : List Int} {n : Nat} (h : Eqs a b n) (ha : a.length = n) (hb : b.length = n) : a = b := by
  apply List.ext_getElem?
  intro j
  rcases Nat.lt_or_ge j n with g | g
  · exact h j g
  · rw [List.getElem?_eq_none (by omega), List.getElem?_eq_none (by omega)]
def BoolPost (p : Bool) (w : World) (e : Ending) (w' : World) : Prop := e = .returned (.bool p) ∧ Below w.heap.size w w'
/-- Are two instructions the same? -/
def sameZ (i k : I) : Bool := decide (i.op = k.op) && decide (i.a = k.a) && decide (i.b = k.b) && decide (i.l = k.l)
theorem below_twoI (w : World) (i k : I) (A B : Option Addr) (c d : Nat) : Below w.heap.size w ((w.alloc (.cells (insC i A c) 37)).alloc (.cells (insC k B d) 37)) := (below_box w _).alloc (by simp) _
theorem same_no {i k : I} {w W : World} (h : ¬ (i.op = k.op ∧ i.a = k.a ∧ i.b = k.b ∧ i.l = k.l)) (hb : Below w.heap.size w W) : BoolPost (sameZ i k) w (.returned (.bool false)) W := by
  refine ⟨ret_bool ?_, hb⟩
  unfold sameZ
  by_cases h1 : i.op = k.op
  · by_cases h2 : i.a = k.a
    · by_cases h3 : i.b = k.b
      · have h4 : ¬ i.l = k.l := fun e => h ⟨h1, h2, h3, e⟩
        simp [h4]
      · simp [h3]
    · simp [h2]
  · simp [h1]
theorem op_ne {a b : UInt8} (h : a ≠ b) : ((a.toNat : Int) == b.toNat) = false := by
  simp
  intro e
  exact h (UInt8.toNat_inj.1 (by omega))
theorem op_eq (a : UInt8) : ((a.toNat : Int) == a.toNat) = true := by simp
set_option maxHeartbeats 2000000 in
theorem refSame_any {w : World} {A B : Option Addr} {c d : Nat} {i k : I} (ha : LiesL w A i.l) (hb : LiesL w B k.l) (na : i.l.length ≤ 100000) (nb : k.l.length ≤ 100000) :
    Calls Tryd.prog 35 #[insV i A c, insV k B d] w (BoolPost (sameZ i k) w) := by
  have HB2 := Lib.hid (below_twoI w i k A B c d)
  have HA := Lib.hid (ha.below HB2.out)
  have HB := Lib.hid (hb.below HB2.out)
  clear ha hb
  by_cases h1 : i.op = k.op
  · have d1 : ((i.op.toNat : Int) != k.op.toNat) = false := by rw [h1]; simp
    by_cases h2 : i.a = k.a
    · have d2 : (i.a != k.a) = false := by simpa using h2
      by_cases h3 : i.b = k.b
      · have d3 : (i.b != k.b) = false := by simpa using h3
        have HE := Lib.hid (show sameZ i k = decide (i.l = k.l) by unfold sameZ; simp [h1, h2, h3])
        by_cases h4 : i.l.length = k.l.length
        · have d4 : ((i.l.length : Int) != k.l.length) = false := by rw [h4]; simp
          have HL := Lib.hid h4
          clear h1 h2 h3 h4
          go_enter Tryd.func35, Tryd.ntmps35
          go_wp2
          generalize hW : ((w.alloc (.cells (insC i A c) 37)).alloc (.cells (insC k B d) 37)) = W at *
          have x3 : W.cell? ⟨w.heap.size, 3, none⟩ = some (.slice A i.l.length c) := by rw [← hW]; exact ((Whole.made w 37 (insC i A c)).alloc _).cell 3
          have y3 : W.cell? ⟨w.heap.size + 1, 3, none⟩ = some (.slice B k.l.length d) := by
            rw [← hW]
            have := Whole.made (w.alloc (.cells (insC i A c) 37)) 37 (insC k B d)
            rw [size_box] at this
            exact this.cell 3
          clear hW
          go_loopw [5] (fun s wr => ∃ j q : Nat, j ≤ i.l.length ∧ s = .int .i64 j ∧ wr = W.drewN q ∧ Eqs i.l k.l j) (fun s _ => i.l.length - (intOf s).toNat)
          case atStart => exact ⟨0, 0, Nat.zero_le _, rfl, rfl, fun j hj => absurd hj (Nat.not_lt_zero _)⟩
          case round =>
            obtain ⟨j, q, hj, rfl, rfl, heq⟩ := hrel
            by_cases hlt : j < i.l.length
            · obtain ⟨x, hx⟩ : ∃ x, i.l[j]? = some x := ⟨_, List.getElem?_eq_getElem hlt⟩
              obtain ⟨y, hy⟩ : ∃ y, k.l[j]? = some y := ⟨_, List.getElem?_eq_getElem (by rw [← HL.out]; exact hlt)⟩
              obtain ⟨b1, o1, rfl, _, g1⟩ := HA.out.at hx
              obtain ⟨b2, o2, rfl, _, g2⟩ := HB.out.at hy
              have hlt2 : j < k.l.length := by rw [← HL.out]; exact hlt
              have HE2 := Lib.hid heq
              have HX := Lib.hid hx
              have HY := Lib.hid hy
              clear heq hx hy
              by_cases hxy : x = y
              · have HXY := Lib.hid hxy
                have hc : (x != y) = false := by simpa using hxy
                clear hxy
                go_wp2_with fail
                go_region
                go_wp2
                go_roundw
                case measure => simp [intOf]; omega
                case rel =>
                  refine ⟨j + 1, q + 1, by omega, by go_num, rfl, fun u hu => ?_⟩
                  by_cases e : u = j
                  · subst e
                    rw [HX.out, HY.out, HXY.out]
                  · exact HE2.out u (by omega)
              · have HXY := Lib.hid hxy
                have hc : (x != y) = true := by simpa using hxy
                clear hxy
                go_wp2_with fail
                go_region
                go_wp2
                go_ret
                refine ⟨ret_bool ?_, below_drewN HB2.out _⟩
                have : ¬ i.l = k.l := fun e => HXY.out (by have h1 := HX.out; have h2 := HY.out; rw [e, h2] at h1; injection h1 with h1; exact h1.symm)
                rw [HE.out, decide_eq_false this]
            · have hjj : j = i.l.length := by omega
              subst hjj
              have hab : i.l = k.l := heq.all rfl HL.out.symm
              clear heq
              go_wp2
              go_ret
              exact ⟨ret_bool (by rw [HE.out, decide_eq_true hab]), below_drewN HB2.out _⟩
        · have d4 : ((i.l.length : Int) != k.l.length) = true := by simp; omega
          have HNO := Lib.hid (fun W hb => same_no (i := i) (k := k) (w := w) (W := W) (fun h => h4 (by rw [h.2.2.2])) hb)
          clear h1 h2 h3 h4
          go_enter Tryd.func35, Tryd.ntmps35
          go_wp2
          go_ret
          exact HNO.out _ HB2.out
      · have d3 : (i.b != k.b) = true := by simpa using h3
        have HNO := Lib.hid (fun W hb => same_no (i := i) (k := k) (w := w) (W := W) (fun h => h3 h.2.2.1) hb)
        clear h1 h2 h3
        go_enter Tryd.func35, Tryd.ntmps35
        go_wp2
        go_ret
        exact HNO.out _ HB2.out
    · have d2 : (i.a != k.a) = true := by simpa using h2
      have HNO := Lib.hid (fun W hb => same_no (i := i) (k := k) (w := w) (W := W) (fun h => h2 h.2.1) hb)
      clear h1 h2
      go_enter Tryd.func35, Tryd.ntmps35
      go_wp2
      go_ret
      exact HNO.out _ HB2.out
  · have d1 : ((i.op.toNat : Int) != k.op.toNat) = true := by have := op_ne h1; simp at this ⊢; exact this
    have HNO := Lib.hid (fun W hb => same_no (i := i) (k := k) (w := w) (W := W) (fun h => h1 h.1) hb)
    clear h1
    go_enter Tryd.func35, Tryd.ntmps35
    go_wp2
    go_ret
    exact HNO.out _ HB2.out
end Go.Proofs.YtebgmfjgapmpfabDoor
