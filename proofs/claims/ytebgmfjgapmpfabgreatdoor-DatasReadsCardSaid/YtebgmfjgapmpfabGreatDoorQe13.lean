/- consts.Read of any bytes. -/
import Derived.Test.YtebgmfjgapmpfabGreatDoorQe12
import Derived.Test.YtebgmfjgapmpfabGreatDoorQe08
import Derived.Test.YtebgmfjgapmpfabGreatDoorQe09
import Derived.Test.YtebgmfjgapmpfabGreatDoorQe07
import Derived.Test.YtebgmfjgapmpfabGreatDoorQe11
import Derived.Test.YtebgmfjgapmpfabGreatDoorQe10
import Derived.Test.YtebgmfjgapmpfabGreatDoorQe02
import Derived.Test.YtebgmfjgapmpfabGreatDoorQe04
import Derived.Test.YtebgmfjgapmpfabGreatDoorQe05
namespace Go.Proofs.YtebgmfjgapmpfabGreatDoor
open Go.RowKit
set_option linter.unusedVariables false
set_option maxRecDepth 100000

/-- How far Read has come: its result's block, the instruction's box, the scanner. -/
structure RdS (w : World) (p : Nat) (l : List UInt8) (H2 : Nat) (i : I) (A : Option Addr) (c k : Nat) (W : World) : Prop where
  res : Whole W w.heap.size 59 #[.int .u8 0, .int .u64 0, .int .u64 0, .slice none 0 0]
  box : Whole W H2 59 (insC i A c)
  sc : Sc W p l k
  gr : w.grownBy W (some p)
  hp : p < w.heap.size
  h2 : w.heap.size < H2
  tb : TbP p W
  ty : LabT W A i.l
  far : ∀ a, A = some a → w.heap.size ≤ a.block
section
variable {w : World} {p : Nat} {l : List UInt8} {H2 : Nat} {i : I} {A : Option Addr} {c k k' : Nat} {W W' : World}
theorem Sc.whole {w : World} {p : Nat} {l : List UInt8} {k : Nat} (h : Sc w p l k) : ∃ cs, Whole w p 76 cs := by
  obtain ⟨A, cap, h1, _⟩ := h
  exact ⟨_, h1⟩
theorem RdS.call (h : RdS w p l H2 i A c k W) (hs : Sc W' p l k') (hg : W.grownBy W' (some p)) : RdS w p l H2 i A c k' W' := by
  have a := h.hp
  have b := h.h2
  obtain ⟨cs, hw⟩ := h.sc.whole
  exact ⟨h.res.grown hg (by simp only [ne_eq, Option.some.injEq]; omega), h.box.grown hg (by simp only [ne_eq, Option.some.injEq]; omega), hs, gb_trans h.gr hg, h.hp, h.h2, h.tb.self hg, h.ty.keep hg (h.ty.apart hw (by decide)), h.far⟩
theorem RdS.below (h : RdS w p l H2 i A c k W) (hb : Below W.heap.size W W') : RdS w p l H2 i A c k W' := h.call (h.sc.below hb) (gb_of_below _ hb)
theorem RdS.fin (h : RdS w p l H2 i A c k W) (W4 : World) (hW : W4 = (((W.setCell ⟨w.heap.size, 0, none⟩ (.int .u8 i.op.toNat)).setCell ⟨w.heap.size, 1, none⟩ (.int .u64 i.a)).setCell ⟨w.heap.size, 2, none⟩ (.int .u64 i.b)).setCell ⟨w.heap.size, 3, none⟩ (.slice A i.l.length c)) :
    Whole W4 w.heap.size 59 (insC i A c) ∧ Gets p l i k w (.returned (insV i A c)) W4 := by
  subst hW
  have a := h.hp
  have b := h.h2
  have hg := gb_put (p := ⟨w.heap.size, 3, none⟩) (gb_put (p := ⟨w.heap.size, 2, none⟩) (gb_put (p := ⟨w.heap.size, 1, none⟩) (gb_put (p := ⟨w.heap.size, 0, none⟩) (gb_refl W (some w.heap.size)) (.inl rfl) (.int .u8 i.op.toNat)) (.inl rfl) (.int .u64 i.a)) (.inl rfl) (.int .u64 i.b)) (.inl rfl) (.slice A i.l.length c)
  have hty := h.ty.keep hg (h.ty.apart h.res (by decide))
  exact ⟨(((h.res.put 0 (.int .u8 i.op.toNat)).put 1 (.int .u64 i.a)).put 2 (.int .u64 i.b)).put 3 (.slice A i.l.length c),
    A, c, rfl, hty.lies, h.far, h.sc.grown hg (by simp only [ne_eq, Option.some.injEq]; omega) (fun g e => by injection e with e; omega), gb_before h.gr hg (fun g e => .inr (by injection e with e; omega)), hty⟩
end
set_option maxHeartbeats 4000000 in
theorem cread_any {w : World} {p : Nat} {l : List UInt8} {k : Nat} (hs : Sc w p l k) (hT : TbP p w) :
    Calls Tryz.prog 116 #[.pointer (some ⟨p, 0, none⟩)] w (GetsR p l (readR l k) w) := by
  have hlt := hs.lt
  have HZ : Hid (Sc (w.alloc (.cells #[.int .u8 0, .int .u64 0, .int .u64 0, .slice none 0 0] 59)) p l k ∧ TbP p (w.alloc (.cells #[.int .u8 0, .int .u64 0, .int .u64 0, .slice none 0 0] 59))) := ⟨hs.alloc _, hT.below (below_box w _) (by omega)⟩
  have hG := getA_any HZ.out.1 HZ.out.2
  have HAT := Lib.hid (at_any HZ.out.1)
  unfold readR
  cases hr : getR l k with
  | err ec ea =>
    rw [hr] at hG
    rw [Res.bind_err]
    show Calls _ _ _ _ (fun e w' => e = .panicked (stopP ec ea) ∧ w.grownBy w' (some p))
    have HG := Lib.hid hG
    clear hs hT hG hr HZ
    go_enter Tryz.func116, Tryz.ntmps116
    go_wp2_with (first
      | (go_at_call 109; go_must ((with_reducible refine HAT.out.mono ?_); rintro e w' ⟨rfl, rfl⟩))
      | (go_at_call 110; go_must ((with_reducible refine HG.out.mono ?_); rintro e w1 ⟨rfl, hg⟩; have HGE := Lib.hid hg; clear hg)))
    exact ⟨rfl, rfl, gb_trans (gb_alloc (gb_refl w _) _) HGE.out⟩
  | ok i k1 =>
    rw [hr] at hG
    rw [Res.bind_ok]
    obtain ⟨oi, hl10, hk1⟩ := getR_ok hr
    have HG := Lib.hid (show Calls Tryz.prog 110 #[.pointer (some ⟨p, 0, none⟩)] (w.alloc (.cells #[.int .u8 0, .int .u64 0, .int .u64 0, .slice none 0 0] 59)) (Gets p l i k1 (w.alloc (.cells #[.int .u8 0, .int .u64 0, .int .u64 0, .slice none 0 0] 59))) from hG)
    have HWM := Lib.hid (Whole.made w 59 #[.int .u8 0, .int .u64 0, .int .u64 0, .slice none 0 0])
    have hstart : ∀ w1 (A : Option Addr) (c : Nat), Sc w1 p l k1 → (w.alloc (.cells #[.int .u8 0, .int .u64 0, .int .u64 0, .slice none 0 0] 59)).grownBy w1 (some p) → LabT w1 A i.l → (∀ a, A = some a → (w.alloc (.cells #[.int .u8 0, .int .u64 0, .int .u64 0, .slice none 0 0] 59)).heap.size ≤ a.block) →
        RdS w p l w1.heap.size i A c k1 (w1.alloc (.cells (insC i A c) 59)) := fun w1 A c hs1 hg1 hty hfar => by
      have hz := hg1.size
      rw [size_box] at hz
      exact ⟨(HWM.out.grown hg1 (by simp only [ne_eq, Option.some.injEq]; omega)).alloc _, Whole.made _ _ _, hs1.alloc _, gb_alloc (gb_trans (gb_alloc (gb_refl w _) _) hg1) _, hlt, by omega, (HZ.out.2.self hg1).below (below_box w1 _) (by omega), hty.keep (gb_of_below none (below_box w1 _)) (fun a e => by simp), fun a ha => by have := hfar a ha; rw [size_box] at this; omega⟩
    have HST := Lib.hid hstart
    have HCR := Lib.hid (fun W (A : Option Addr) (c : Nat) (h : Tabs W) => cright_any i A c W oi h (by omega))
    clear hs hT hG hr hstart hl10 hk1 oi
    obtain ⟨z, hz⟩ : ∃ z, z = crightZ i := ⟨_, rfl⟩
    rw [← hz] at HCR ⊢
    clear hz
    by_cases h0 : z = 0
    · subst h0
      rw [if_pos rfl]
      have hB := fun W (h : Sc W p l k1) => byte_any h
      have HA1 := Lib.hid (fun W (h : Sc W p l k1) => at_any h)
      cases hb : byteR l k1 with
      | err ec ea =>
        rw [Res.bind_err]
        show Calls _ _ _ _ (fun e w' => e = .panicked (stopP ec ea) ∧ w.grownBy w' (some p))
        have HB := Lib.hid (fun W (h : Sc W p l k1) => show Calls Tryz.prog 126 #[.pointer (some ⟨p, 0, none⟩)] W (Did encB p l W (.err ec ea)) from by have := hB W h; rw [hb] at this; exact this)
        clear hB hb HZ
        go_enter Tryz.func116, Tryz.ntmps116
        go_wp2_with (first
          | (have tok := HG2; go_at_call 109; go_must ((with_reducible refine (HA1.out _ HG2.out.sc).mono ?_); rintro e w' ⟨rfl, rfl⟩))
          | (go_at_call 109; go_must ((with_reducible refine HAT.out.mono ?_); rintro e w' ⟨rfl, rfl⟩))
          | (go_at_call 110; go_must ((with_reducible refine HG.out.mono ?_); intro e w1 hq; obtain ⟨A, c, rfl, hla, hfar, hs, hg, hty⟩ := hq; have HG1 := Lib.hid (HST.out w1 A c hs hg hty hfar); have c0 := HG1.out.box.cell 0; have c1 := HG1.out.box.cell 1; have c2 := HG1.out.box.cell 2; have c3 := HG1.out.box.cell 3; simp only [List.getElem?_toArray, List.getElem?_cons_zero, List.getElem?_cons_succ] at c0 c1 c2 c3; clear hla hfar hs hg hty))
          | (go_at_call 112; go_must ((with_reducible refine (HCR.out _ _ _ HG1.out.tb.tabs).mono ?_); rintro e w2 ⟨rfl, hb2⟩; have HG2 := Lib.hid (HG1.out.below hb2); clear hb2))
          | (go_at_call 75; go_must ((with_reducible refine (unlessT _ _ _).mono ?_); rintro e w' ⟨rfl, rfl⟩))
          | (go_at_call 126; go_must ((with_reducible refine (HB.out _ HG2.out.sc).mono ?_); rintro e w3 ⟨rfl, hg⟩; have HGE := Lib.hid hg; clear hg)))
        exact ⟨rfl, rfl, gb_trans HG2.out.gr HGE.out⟩
      | ok d k2 =>
        rw [Res.bind_ok]
        have HB := Lib.hid (fun W (h : Sc W p l k1) => show Calls Tryz.prog 126 #[.pointer (some ⟨p, 0, none⟩)] W (Did encB p l W (.ok d k2)) from by have := hB W h; rw [hb] at this; exact this)
        clear hB hb HZ
        by_cases hd : d = 11
        · rw [if_pos hd]
          show Calls _ _ _ _ (Gets p l i k2 w)
          have dd : ((d.toNat : Int) == 11) = true := by rw [hd]; rfl
          clear hd
          go_enter Tryz.func116, Tryz.ntmps116
          go_wp2_with (first
            | (have tok := HG2; go_at_call 109; go_must ((with_reducible refine (HA1.out _ HG2.out.sc).mono ?_); rintro e w' ⟨rfl, rfl⟩))
            | (go_at_call 109; go_must ((with_reducible refine HAT.out.mono ?_); rintro e w' ⟨rfl, rfl⟩))
            | (go_at_call 110; go_must ((with_reducible refine HG.out.mono ?_); intro e w1 hq; obtain ⟨A, c, rfl, hla, hfar, hs, hg, hty⟩ := hq; have HG1 := Lib.hid (HST.out w1 A c hs hg hty hfar); have c0 := HG1.out.box.cell 0; have c1 := HG1.out.box.cell 1; have c2 := HG1.out.box.cell 2; have c3 := HG1.out.box.cell 3; have hh := HG1.out.h2; have n1 : ¬ w1.heap.size = w.heap.size := (by omega); have n2 : ¬ w.heap.size = w1.heap.size := (by omega); simp only [List.getElem?_toArray, List.getElem?_cons_zero, List.getElem?_cons_succ] at c0 c1 c2 c3; clear hla hfar hs hg hty hh))
            | (go_at_call 112; go_must ((with_reducible refine (HCR.out _ _ _ HG1.out.tb.tabs).mono ?_); rintro e w2 ⟨rfl, hb2⟩; have HG2 := Lib.hid (HG1.out.below hb2); clear hb2 c0 c1 c2 c3))
            | (go_at_call 75; go_must ((with_reducible refine (unlessT _ _ _).mono ?_); rintro e w' ⟨rfl, rfl⟩))
            | (go_at_call 126; go_must ((with_reducible refine (HB.out _ HG2.out.sc).mono ?_); rintro e w3 ⟨rfl, hs, hg⟩; have HG3 := Lib.hid (HG2.out.call hs hg); have c0 := HG3.out.box.cell 0; have c1 := HG3.out.box.cell 1; have c2 := HG3.out.box.cell 2; have c3 := HG3.out.box.cell 3; have r0 := HG3.out.res.cell 0; have r1 := HG3.out.res.cell 1; have r2 := HG3.out.res.cell 2; have r3 := HG3.out.res.cell 3; have z0 := HG3.out.res.frozen 0; have z1 := HG3.out.res.frozen 1; have z2 := HG3.out.res.frozen 2; have z3 := HG3.out.res.frozen 3; simp only [List.getElem?_toArray, List.getElem?_cons_zero, List.getElem?_cons_succ] at c0 c1 c2 c3 r0 r1 r2 r3; clear hs hg)))
          obtain ⟨q4, hf⟩ := HG3.out.fin _ rfl
          have q0 := q4.cell 0
          have q1 := q4.cell 1
          have q2 := q4.cell 2
          have q3 := q4.cell 3
          simp only [List.getElem?_toArray, List.getElem?_cons_zero, List.getElem?_cons_succ] at q0 q1 q2 q3
          exact bodyPost_ret (v := insV i A c) (by simp [results, Tryz.results116, go_sem, q0, q1, q2, q3]) rfl hf
        · rw [if_neg hd]
          show Calls _ _ _ _ (fun e w' => e = .panicked (stopP 12 k1) ∧ w.grownBy w' (some p))
          have dd : ((d.toNat : Int) == 11) = false := by
            have : d.toNat ≠ 11 := fun e => hd (UInt8.toNat_inj.1 (by rw [e]; rfl))
            simp; omega
          clear hd
          go_enter Tryz.func116, Tryz.ntmps116
          go_wp2_with (first
            | (have tok := HG2; go_at_call 109; go_must ((with_reducible refine (HA1.out _ HG2.out.sc).mono ?_); rintro e w' ⟨rfl, rfl⟩))
            | (go_at_call 109; go_must ((with_reducible refine HAT.out.mono ?_); rintro e w' ⟨rfl, rfl⟩))
            | (go_at_call 110; go_must ((with_reducible refine HG.out.mono ?_); intro e w1 hq; obtain ⟨A, c, rfl, hla, hfar, hs, hg, hty⟩ := hq; have HG1 := Lib.hid (HST.out w1 A c hs hg hty hfar); have c0 := HG1.out.box.cell 0; have c1 := HG1.out.box.cell 1; have c2 := HG1.out.box.cell 2; have c3 := HG1.out.box.cell 3; simp only [List.getElem?_toArray, List.getElem?_cons_zero, List.getElem?_cons_succ] at c0 c1 c2 c3; clear hla hfar hs hg hty))
            | (go_at_call 112; go_must ((with_reducible refine (HCR.out _ _ _ HG1.out.tb.tabs).mono ?_); rintro e w2 ⟨rfl, hb2⟩; have HG2 := Lib.hid (HG1.out.below hb2); clear hb2))
            | (have tok := HG3; go_at_call 75; go_must ((with_reducible refine (unlessF _ _ _).mono ?_); rintro e w' ⟨rfl, rfl⟩))
            | (go_at_call 75; go_must ((with_reducible refine (unlessT _ _ _).mono ?_); rintro e w' ⟨rfl, rfl⟩))
            | (go_at_call 126; go_must ((with_reducible refine (HB.out _ HG2.out.sc).mono ?_); rintro e w3 ⟨rfl, hs, hg⟩; have HG3 := Lib.hid (HG2.out.call hs hg); clear hs hg)))
          exact ⟨rfl, rfl, HG3.out.gr⟩
    · rw [if_neg h0]
      show Calls _ _ _ _ (fun e w' => e = .panicked (stopP z k) ∧ w.grownBy w' (some p))
      have dz : (z == 0) = false := by simpa using h0
      clear h0 HZ
      go_enter Tryz.func116, Tryz.ntmps116
      go_wp2_with (first
        | (go_at_call 109; go_must ((with_reducible refine HAT.out.mono ?_); rintro e w' ⟨rfl, rfl⟩))
        | (go_at_call 110; go_must ((with_reducible refine HG.out.mono ?_); intro e w1 hq; obtain ⟨A, c, rfl, hla, hfar, hs, hg, hty⟩ := hq; have HG1 := Lib.hid (HST.out w1 A c hs hg hty hfar); have c0 := HG1.out.box.cell 0; have c1 := HG1.out.box.cell 1; have c2 := HG1.out.box.cell 2; have c3 := HG1.out.box.cell 3; simp only [List.getElem?_toArray, List.getElem?_cons_zero, List.getElem?_cons_succ] at c0 c1 c2 c3; clear hla hfar hs hg hty))
        | (go_at_call 112; go_must ((with_reducible refine (HCR.out _ _ _ HG1.out.tb.tabs).mono ?_); rintro e w2 ⟨rfl, hb2⟩; have HG2 := Lib.hid (HG1.out.below hb2); clear hb2))
        | (go_at_call 75; go_must ((with_reducible refine (unlessF _ _ _).mono ?_); rintro e w' ⟨rfl, rfl⟩)))
      exact ⟨rfl, rfl, HG2.out.gr⟩
end Go.Proofs.YtebgmfjgapmpfabGreatDoor

/- segment.GetHead, elems.Get of any bytes. -/
namespace Go.Proofs.YtebgmfjgapmpfabGreatDoor
open Go.RowKit
set_option linter.unusedVariables false
set_option maxRecDepth 100000

/-- A segment's beginning; an element segment. -/
noncomputable def headR (l : List UInt8) (k : Nat) : Res I := (noughtR l k).bind fun _ k1 => readR l k1
noncomputable def elR (l : List UInt8) (k : Nat) : Res El := (headR l k).bind fun i k1 => (labelsR l k1).bind fun fs k2 => .ok ⟨i, fs⟩ k2
set_option maxHeartbeats 4000000 in
theorem gethead_any {w : World} {p : Nat} {l : List UInt8} {k : Nat} (h : Sc w p l k) (hT : TbP p w) :
    Calls Tryz.prog 81 #[.pointer (some ⟨p, 0, none⟩)] w (GetsR p l (headR l k) w) := by
  have hp := h.lt
  have hN := getNought_any (h.alloc (.cells #[.int .u8 0, .int .u64 0, .int .u64 0, .slice none 0 0] 59))
  have HT0 := Lib.hid (hT.below (below_box w (.cells #[.int .u8 0, .int .u64 0, .int .u64 0, .slice none 0 0] 59)) (Nat.le_of_lt hp))
  have HWM := Lib.hid (Whole.made w 59 #[.int .u8 0, .int .u64 0, .int .u64 0, .slice none 0 0])
  unfold headR
  cases h1 : noughtR l k with
  | err ec ea =>
    rw [h1] at hN
    rw [Res.bind_err]
    show Calls _ _ _ _ (fun e w' => e = .panicked (stopP ec ea) ∧ w.grownBy w' (some p))
    have HN := Lib.hid hN
    clear hN h1 h hT
    go_enter Tryz.func81, Tryz.ntmps81
    go_wp2_with (go_at_call 115; go_must ((with_reducible refine HN.out.mono ?_); rintro e w1 ⟨rfl, hg⟩; have HG1 := Lib.hid hg; clear hg))
    exact ⟨rfl, rfl, gb_trans (gb_alloc (gb_refl w _) _) HG1.out⟩
  | ok u k1 =>
    rw [h1] at hN
    rw [Res.bind_ok]
    have HN := Lib.hid hN
    clear hN h1 h hT
    have hC := fun W (hs : Sc W p l k1) (ht : TbP p W) => cread_any hs ht
    cases h2 : readR l k1 with
    | err ec ea =>
      rw [h2] at hC
      show Calls _ _ _ _ (fun e w' => e = .panicked (stopP ec ea) ∧ w.grownBy w' (some p))
      have HC := Lib.hid (fun W (hs : Sc W p l k1) (ht : TbP p W) => show Calls Tryz.prog 116 #[.pointer (some ⟨p, 0, none⟩)] W (fun e w' => e = .panicked (stopP ec ea) ∧ W.grownBy w' (some p)) from hC W hs ht)
      clear hC h2
      go_enter Tryz.func81, Tryz.ntmps81
      go_wp2_with (first
        | (go_at_call 115; go_must ((with_reducible refine HN.out.mono ?_); rintro e w1 ⟨rfl, hs, hg⟩; have HS1 := Lib.hid hs; have HG1 := Lib.hid hg; clear hs hg))
        | (go_at_call 116; go_must ((with_reducible refine (HC.out _ HS1.out (HT0.out.self HG1.out)).mono ?_); rintro e w2 ⟨rfl, hg⟩; have HG2 := Lib.hid hg; clear hg)))
      exact ⟨rfl, rfl, gb_trans (gb_trans (gb_alloc (gb_refl w _) _) HG1.out) HG2.out⟩
    | ok i k2 =>
      rw [h2] at hC
      have HC := Lib.hid (fun W (hs : Sc W p l k1) (ht : TbP p W) => show Calls Tryz.prog 116 #[.pointer (some ⟨p, 0, none⟩)] W (Gets p l i k2 W) from hC W hs ht)
      clear hC h2
      go_enter Tryz.func81, Tryz.ntmps81
      go_wp2_with (first
        | (go_at_call 115; go_must ((with_reducible refine HN.out.mono ?_); rintro e w1 ⟨rfl, hs, hg⟩; have HS1 := Lib.hid hs; have HG1 := Lib.hid hg; have HW1 := Lib.hid (HWM.out.grown hg (by simp only [ne_eq, Option.some.injEq]; omega)); clear hs hg))
        | (go_at_call 116; go_must ((with_reducible refine (HC.out _ HS1.out (HT0.out.self HG1.out)).mono ?_); intro e w2 hq; obtain ⟨A, c, rfl, hla, hfar, hs, hg, hty⟩ := hq; have HS2 := Lib.hid hs; have HG2 := Lib.hid hg; have HTY := Lib.hid hty; have HF := Lib.hid hfar; have HW2 := Lib.hid (HW1.out.grown hg (by simp only [ne_eq, Option.some.injEq]; omega)); have z0 := HW2.out.cell 0; have z1 := HW2.out.cell 1; have z2 := HW2.out.cell 2; have z3 := HW2.out.cell 3; simp only [List.getElem?_toArray, List.getElem?_cons_zero, List.getElem?_cons_succ] at z0 z1 z2 z3; have f0 := HW2.out.frozen 0; have f1 := HW2.out.frozen 1; have f2 := HW2.out.frozen 2; have f3 := HW2.out.frozen 3; clear hla hfar hs hg hty)))
      obtain ⟨h1, h2⟩ := put4 (u0 := .int .u8 i.op.toNat) (u1 := .int .u64 i.a) (u2 := .int .u64 i.b) (u3 := .slice A i.l.length c) HW2.out
      have q0 := h1.cell 0
      have q1 := h1.cell 1
      have q2 := h1.cell 2
      have q3 := h1.cell 3
      simp only [List.getElem?_toArray, List.getElem?_cons_zero, List.getElem?_cons_succ] at q0 q1 q2 q3
      have hz1 := HG1.out.size
      rw [size_box] at hz1
      have hty := HTY.out.keep h2 (HTY.out.apart HW2.out (by decide))
      refine bodyPost_ret (v := insV i A c) (by simp [results, Tryz.results81, go_sem, q0, q1, q2, q3]) rfl ?_
      exact ⟨A, c, rfl, hty.lies, fun a ha => by have := HF.out a ha; omega, HS2.out.grown h2 (by simp only [ne_eq, Option.some.injEq]; omega) (fun g e => by injection e with e; omega), gb_before (gb_trans (gb_trans (gb_alloc (gb_refl w _) _) HG1.out) HG2.out) h2 (fun g e => .inr (by injection e with e; omega)), hty⟩
/-- What Get leaves behind. -/
def GotEl (p : Nat) (l : List UInt8) (r : Res El) (w : World) (e : Ending) (w' : World) : Prop := match r with
  | .ok x k => ∃ A c F f, e = .returned (elV x A c F f) ∧ Sc w' p l k ∧ w.grownBy w' (some p) ∧ LabT w' F x.fs ∧ ∀ a, F = some a → w.heap.size ≤ a.block
  | .err c a => e = .panicked (stopP c a) ∧ w.grownBy w' (some p)
section
variable {w W W' : World} {q bt : Nat} {i : I} {A : Option Addr} {c : Nat}
end
end Go.Proofs.YtebgmfjgapmpfabGreatDoor

/- The reference's Count and creelref13.Get, whatever the reader's state. (By gen/genElRef.py.) -/
namespace Go.Proofs.YtebgmfjgapmpfabGreatDoor
open Go.RowKit
set_option linter.unusedVariables false
set_option maxRecDepth 100000

theorem count_st {w : World} {q : Nat} {l : List UInt8} {s : RSt} (h : Rs w q l s) :
    Calls Tryz.prog 44 #[.pointer (some ⟨q, 0, none⟩)] w fun e w' => e = .returned (.int .i64 (vZ (s.bind (countR l)))) ∧ Rs w' q l (stOf (s.bind (countR l))) ∧ w.grownBy w' (some q) := by
  cases s with
  | «at» k => exact count_ref h
  | bad c a =>
    show Calls _ _ _ _ fun e w' => e = .returned (.int .i64 0) ∧ Rs w' q l (.bad c a) ∧ w.grownBy w' (some q)
    have HN := Lib.hid (show Calls Tryz.prog 85 #[.pointer (some ⟨q, 0, none⟩)] w fun e w' => e = .returned (.int .u32 0) ∧ Rs w' q l (.bad c a) ∧ w.grownBy w' (some q) from index_ref h)
    obtain ⟨jy, y1⟩ := at_bad h
    have hne : (c != 0) = true := by simpa using h.nz
    clear h
    go_enter Tryz.func44, Tryz.ntmps44
    go_wp2_with (go_at_call 85; go_must ((with_reducible refine HN.out.mono ?_); rintro e w1 ⟨rfl, hs, hg⟩; have HS := Lib.hid hs; have HG := Lib.hid hg; have x2 := why_bad hs; clear hs hg y1))
    go_ret
    exact ⟨rfl, HS.out, HG.out⟩
/-- The state behind a byte that can only be 0, which the reference reads by hand. -/
theorem pre_ref {w : World} {q : Nat} {l : List UInt8} {s : RSt} (h : Rs w q l s) :
    (∃ j : Int, w.cell? ⟨q, 1, none⟩ = some (.int .i64 j)) ∧
    ((Calls Tryz.prog 87 #[.pointer (some ⟨q, 0, none⟩)] w fun e w' => e = .returned (.int .i64 0) ∧ Rs w' q l (stOf (s.bind (noughtR l))) ∧ w.grownBy w' (some q)) ∨
     (∃ (k k' : Nat) (c : UInt8), s = .at k ∧ ((c.toNat : Int) != 0) = true ∧ stOf (s.bind (noughtR l)) = .bad 10 k ∧ w.cell? ⟨q, 1, none⟩ = some (.int .i64 k) ∧
       Calls Tryz.prog 87 #[.pointer (some ⟨q, 0, none⟩)] w fun e w' => e = .returned (.int .i64 c.toNat) ∧ Rs w' q l (.at k') ∧ w.grownBy w' (some q))) := by
  have hB := byte_ref h
  cases s with
  | bad c a => exact ⟨at_bad h, .inl hB⟩
  | «at» k =>
    refine ⟨⟨_, at_at h⟩, ?_⟩
    have hB2 : Calls Tryz.prog 87 #[.pointer (some ⟨q, 0, none⟩)] w fun e w' => e = .returned (.int .i64 (v8 (byteR l k))) ∧ Rs w' q l (stOf (byteR l k)) ∧ w.grownBy w' (some q) := hB
    have hn : (RSt.at k).bind (noughtR l) = noughtR l k := rfl
    rw [hn]
    unfold noughtR
    cases hr : byteR l k with
    | err c a =>
      rw [hr] at hB2
      exact .inl hB2
    | ok c k' =>
      rw [hr] at hB2
      rw [Res.bind_ok]
      by_cases hc : c = 0
      · subst hc
        rw [if_pos rfl]
        exact .inl hB2
      · rw [if_neg hc]
        refine .inr ⟨k, k', c, rfl, ?_, rfl, at_at h, hB2⟩
        have : c.toNat ≠ 0 := fun e => hc (UInt8.toNat_inj.1 (by rw [e]; rfl))
        simp; omega
section
variable {w : World} {q : Nat} {l : List UInt8} {bt : Nat} {i : I} {A : Option Addr} {c : Nat} {s s' : RSt} {W W' : World} {vb v v' : Value} {acc : List Int}
end
/-- What creelref13.Get leaves behind. -/
def RGotEl (q : Nat) (l : List UInt8) (r : Res El) (w : World) (e : Ending) (w' : World) : Prop :=
  ∃ (x : El) (A : Option Addr) (c : Nat) (F : Option Addr) (f : Nat), e = .returned (elV x A c F f) ∧ Rs w' q l (stOf r) ∧ (∀ y k, r = .ok y k → x = y) ∧ w.grownBy w' (some q) ∧ LabT w' F x.fs ∧ ∀ a, F = some a → w.heap.size ≤ a.block
theorem count_startS {l : List UInt8} {s : RSt} : ∃ (n : Nat) (s0 : RSt), n ≤ 10000 ∧ (vZ (s.bind (countR l)) = n ∧ stOf (s.bind (countR l)) = s0) ∧ Inv32 l n 0 s0 [] (s.bind (labelsR l)) := by
  cases s with
  | «at» k => exact count_start
  | bad c a => exact ⟨0, .bad c a, by omega, ⟨rfl, rfl⟩, rfl⟩
theorem el_fin {l : List UInt8} {X : Res I} {i : I} (hi : ∀ y k, X = .ok y k → i = y) : (X.bind fun i k1 => (labelsR l k1).bind fun fs k2 => .ok (⟨i, fs⟩ : El) k2) = ((stOf X).bind (labelsR l)).bind fun fs k2 => .ok (⟨i, fs⟩ : El) k2 := by
  cases X with
  | err c a => rfl
  | ok y k =>
    obtain rfl := hi y k rfl
    rfl
end Go.Proofs.YtebgmfjgapmpfabGreatDoor

/- Data segments as plain data; datas.Right; creelref15.Count, Right. -/
namespace Go.Proofs.YtebgmfjgapmpfabGreatDoor
open Go.RowKit
set_option linter.unusedVariables false
set_option maxRecDepth 100000

/-- A data segment: its offset, its bytes. -/
structure Da where
  i : I
  bs : List UInt8
/-- Its cells, its labels at A. -/
abbrev daC (x : Da) (A : Option Addr) (c : Nat) : Array Value := #[.int .u8 x.i.op.toNat, .int .u64 x.i.a, .int .u64 x.i.b, .slice A x.i.l.length c, .string (S x.bs)]
abbrev daV (x : Da) (A : Option Addr) (c : Nat) : Value := .agg (daC x A c)
/-- The zero value's cells. -/
abbrev daZ : Array Value := #[.int .u8 0, .int .u64 0, .int .u64 0, .slice none 0 0, .string { data := #[] }]
abbrev FiveDa (W : World) (b : Nat) (x : Da) (A : Option Addr) (c : Nat) : Prop :=
  W.cell? ⟨b, 0, none⟩ = some (.int .u8 x.i.op.toNat) ∧ W.cell? ⟨b, 1, none⟩ = some (.int .u64 x.i.a) ∧ W.cell? ⟨b, 2, none⟩ = some (.int .u64 x.i.b) ∧ W.cell? ⟨b, 3, none⟩ = some (.slice A x.i.l.length c) ∧ W.cell? ⟨b, 4, none⟩ = some (.string (S x.bs))
theorem Whole.da {w : World} {b : Nat} {t : TypeId} {x : Da} {A : Option Addr} {c : Nat} (h : Whole w b t (daC x A c)) : FiveDa w b x A c := ⟨h.cell 0, h.cell 1, h.cell 2, h.cell 3, h.cell 4⟩
/-- A block that holds a segment, in a world grown from B: what is held of it. -/
abbrev BxDa (B : World) (b : Nat) (x : Da) (A : Option Addr) (c : Nat) (W : World) : Prop := (Whole W b 61 (daC x A c) ∧ Below B.heap.size B W) ∧ FiveDa W b x A c
section
variable {B W W' : World} {b : Nat} {x : Da} {A : Option Addr} {c : Nat}
theorem bxDa_on (h : BxDa B b x A c W) (hb : Below W.heap.size W W') : BxDa B b x A c W' := ⟨⟨h.1.1.below hb, h.1.2.trans (hb.mono h.1.2.size)⟩, (h.1.1.below hb).da⟩
theorem bxDa_start (w : World) (x : Da) (A : Option Addr) (c : Nat) : BxDa w w.heap.size x A c (w.alloc (.cells (daC x A c) 61)) := ⟨⟨Whole.made _ _ _, below_box _ _⟩, (Whole.made w 61 (daC x A c)).da⟩
theorem bxDa_bel (h : BxDa B b x A c W) : Below B.heap.size B W := h.1.2
end
set_option maxHeartbeats 2000000 in
theorem daright_any (x : Da) (A : Option Addr) (c : Nat) (w : World) (oi : x.i.Ok) (hT : Tabs w) (hl : (x.i.l.length : Int) ≤ 9223372036854775807) (hn : x.bs.length ≤ 10000) :
    Calls Tryz.prog 77 #[daV x A c] w fun e w' => e = .returned (.int .i64 (crightZ x.i)) ∧ Below w.heap.size w w' := by
  have H0 := Lib.hid (bxDa_start w x A c)
  have HC := Lib.hid (cright_any x.i A c (w.alloc (.cells (daC x A c) 61)) oi (hT.below (below_box w _)) hl)
  have s1 := S_size x.bs
  have d1 : decide ((4194304 : Int) < (x.bs.length : Int)) = false := decide_eq_false (by omega)
  clear hT oi hl hn
  go_enter Tryz.func77, Tryz.ntmps77
  go_wp2_with (go_at_call 112; go_must ((with_reducible refine HC.out.mono ?_); rintro e w1 ⟨rfl, hb⟩; have H1 := Lib.hid (bxDa_on H0.out hb); clear hb))
  go_ret
  exact ⟨rfl, bxDa_bel H1.out⟩
set_option maxHeartbeats 2000000 in
theorem rdaright_any (x : Da) (A : Option Addr) (c : Nat) (w : World) (oi : x.i.Ok) (hl : (x.i.l.length : Int) ≤ 9223372036854775807) :
    Calls Tryz.prog 24 #[daV x A c] w fun e w' => e = .returned (.int .i64 (crightZ x.i)) ∧ Below w.heap.size w w' := by
  have H0 := Lib.hid (bxDa_start w x A c)
  have HC := Lib.hid (rcright_any x.i A c (w.alloc (.cells (daC x A c) 61)) oi hl)
  clear oi hl
  go_enter Tryz.func24, Tryz.ntmps24
  go_wp2_with (go_at_call 48; go_must ((with_reducible refine HC.out.mono ?_); rintro e w1 ⟨rfl, hb⟩; have H1 := Lib.hid (bxDa_on H0.out hb); clear hb))
  go_ret
  exact ⟨rfl, bxDa_bel H1.out⟩
/-- A string that a function makes: nothing old turned. -/
theorem rdacount_any (n : Nat) (w : World) (hn : n ≤ 1000000) : Calls Tryz.prog 23 #[.int .i64 n] w fun e w' => e = .returned (.string (S (lebL n))) ∧ Below w.heap.size w w' := by
  have HC := Lib.hid (fun w => count_any (n : Int) w (by omega) (by omega))
  generalize lebL (n : Int) = y at *
  go_enter Tryz.func23, Tryz.ntmps23
  go_wp2_with (go_at_call 29; go_must ((with_reducible refine (HC.out _).mono ?_); rintro e w1 ⟨rfl, hb⟩; have HB := Lib.hid hb; clear hb))
  go_ret
  exact ⟨rfl, HB.out⟩
end Go.Proofs.YtebgmfjgapmpfabGreatDoor

/- bytes.Clone of any slice; Scanner.Bytes; wire.Part of any bytes (the same as in sect/Name, sect/Next, sect/NextB). -/
namespace Go.Proofs.YtebgmfjgapmpfabGreatDoor
open Go.RowKit Go.Lib
set_option linter.unusedVariables false
set_option maxRecDepth 100000

/-- bytes.Clone of any slice. -/
theorem clone_all {w : World} {A : Option Addr} {cap : Nat} {l : List UInt8} (hl : Lies w w.heap.size A (cells (nums l))) (hc : l.length ≤ 1000000) :
    Calls Tryz.prog 34 #[.slice A l.length cap] w (BytesL l w) := by
  by_cases h0 : 0 < l.length
  · exact clone_ok hl h0 hc
  · have hl0 : l = [] := List.eq_nil_of_length_eq_zero (by omega)
    subst hl0
    cases A with
    | none =>
      show Calls Tryz.prog 34 #[.slice none 0 cap] w (BytesL [] w)
      have hnil : ∀ w : World, (binOp BinOp.eql 32 (.slice none 0 cap) (.slice none 0 0)).run Tryz.prog w = .ok (.bool true) w := fun w => by
        simp only [binOp]
        simp [run_equal_slice_nil w 32 5 _ _ _ Tryz.underlying32]
      clear hl h0 hc
      go_enter Tryz.func34, Tryz.ntmps34
      go_wp2
      go_ret
      exact ⟨_, rfl, Row.nil _ _, Below.refl _ _⟩
    | some ad =>
      show Calls Tryz.prog 34 #[.slice (some ad) 0 cap] w (BytesL [] w)
      have hnil : ∀ w : World, (binOp BinOp.eql 32 (.slice (some ad) 0 cap) (.slice none 0 0)).run Tryz.prog w = .ok (.bool false) w := fun w => by
        simp only [binOp]
        simp [run_equal_slice_nil w 32 5 _ _ _ Tryz.underlying32]
      have R0 := Lib.hid (Row.made w [] w.heap.size w.heap.size rfl (Nat.le_refl _) (by simp))
      have HL := Lib.hid (hl.below (below_box w (.cells #[] 5)) (Nat.le_refl _))
      clear hl h0 hc
      go_enter Tryz.func34, Tryz.ntmps34
      go_wp2_with (at_builtin; (refine row_any rfl _ _ rfl w.heap.size _ [] rfl R0.out (some ad) 0 cap _ [] rfl rfl HL.out (fun e => by cases e) (by simp) (by simp) ?_; intro v2 w2 hr2 hb2; have HR2 := Lib.hid hr2; have HB2 := Lib.hid hb2; clear hr2 hb2))
      go_ret
      exact ⟨_, rfl, HR2.out, (below_box w _).trans HB2.out⟩
/-- Bytes: those that come next, in a row of their own. -/
def Byted (p : Nat) (l : List UInt8) (k n : Nat) (w : World) (e : Ending) (w' : World) : Prop :=
  ∃ v, e = .returned v ∧ Row w' w.heap.size v ((l.drop k).take n) ∧ Sc w' p l (k + n) ∧ w.grownBy w' (some p)
theorem bytes_ok {w : World} {p : Nat} {l : List UInt8} {k : Nat} (h : Sc w p l k) (n : Nat) (hn : k + n ≤ l.length) (hc : l.length ≤ 1000000) :
    Calls Tryz.prog 83 #[.pointer (some ⟨p, 0, none⟩), .int .i64 n] w (Byted p l k n w) := by
  have HT := Lib.hid (take_ok h n hn)
  have hlen : ((l.drop k).take n).length = n := by rw [List.length_take, List.length_drop]; omega
  obtain ⟨t, ht⟩ : ∃ t, t = (l.drop k).take n := ⟨_, rfl⟩
  have HE := Lib.hid ht
  rw [← ht] at hlen
  subst hlen
  have HC := Lib.hid (fun (W : World) (A : Option Addr) (c : Nat) (hl : Lies W W.heap.size A (cells (nums t))) => clone_all (cap := c) hl (by omega))
  have HP := Lib.hid h.lt
  clear h hn hc ht
  go_enter Tryz.func83, Tryz.ntmps83
  go_wp2_with (first
    | (go_at_call 118; go_must ((with_reducible refine HT.out.mono ?_); rintro e w1 ⟨A, c, rfl, h1, h2, hl, hs, hg⟩; rw [← HE.out] at hl; have HL := Lib.hid (hl.more (Nat.le_of_lt hs.lt)); have HS := Lib.hid hs; have HG := Lib.hid hg; clear hl hs hg h1 h2))
    | (go_at_call 34; go_must ((with_reducible refine (HC.out _ _ _ HL.out).mono ?_); intro e w2 h; obtain ⟨v, rfl, hr, hb⟩ := h; have HR := Lib.hid hr; have HB := Lib.hid hb; clear hr hb)))
  go_ret
  have hz := HG.out.size
  exact ⟨v, rfl, by rw [← HE.out]; exact HR.out.mono hz, HS.out.below HB.out, gb_before HG.out (gb_of_below (some p) HB.out) (fun g e => .inl e)⟩

theorem uintR_lt {l : List UInt8} {k n : Nat} {v : Int} {k' : Nat} (h : uintR l k n = .ok v k') : k < k' := by
  unfold uintR at h
  repeat' split at h
  all_goals first | (injection h with h1 h2; omega) | cases h
/-- How many bytes follow, and where they begin. -/
noncomputable def contR (l : List UInt8) (k : Nat) : Res Nat := (indexR l k).bind fun v k' => if k' + v.toNat ≤ l.length then .ok v.toNat k' else .err 2 k'
theorem contR_ok {l : List UInt8} {k n k' : Nat} (h : contR l k = .ok n k') : k < k' ∧ k' + n ≤ l.length := by
  unfold contR at h
  cases hr : indexR l k with
  | ok v k2 =>
    rw [hr, Res.bind_ok] at h
    split at h
    · injection h with h1 h2; subst h1; subst h2; exact ⟨uintR_lt (show uintR l k 32 = .ok v k2 from hr), by assumption⟩
    · cases h
  | err c2 a => rw [hr, Res.bind_err] at h; cases h
theorem contR_err {l : List UInt8} {k : Nat} {c a : Int} (h : contR l k = .err c a) : c ≠ 0 := by
  unfold contR at h
  cases hr : indexR l k with
  | ok v k2 =>
    rw [hr, Res.bind_ok] at h
    split at h
    · cases h
    · injection h with h1 h2; omega
  | err c2 a2 =>
    rw [hr, Res.bind_err] at h
    injection h with h1 h2
    have := (uintR_err (show uintR l k 32 = .err c2 a2 from hr)).2
    omega
/-- What contents leaves behind. -/
def Cont (p : Nat) (l : List UInt8) (w : World) (r : Res Nat) (e : Ending) (w' : World) : Prop := match r with
  | .ok n k => ∃ q, e = .returned (.tuple #[.pointer (some ⟨q, 0, none⟩), .int .i64 k]) ∧ w.heap.size ≤ q ∧ Sc w' q ((l.drop k).take n) 0 ∧ Sc w' p l (k + n) ∧ w.grownBy w' (some p)
  | .err c a => e = .panicked (stopP c a) ∧ w.grownBy w' (some p)
set_option maxHeartbeats 800000 in
theorem cont_sect {w : World} {p : Nat} {l : List UInt8} {k : Nat} (h : Sc w p l k) :
    Calls Tryz.prog 82 #[.pointer (some ⟨p, 0, none⟩)] w (Cont p l w (contR l k)) := by
  have hN := index_scan h
  have hle := h.le.2
  unfold contR
  cases hr : indexR l k with
  | ok v k' =>
    rw [hr] at hN
    rw [Res.bind_ok]
    have HN := Lib.hid hN
    obtain ⟨hk, v0, v1⟩ := uintR_ok (show uintR l k 32 = .ok v k' from hr)
    obtain ⟨n, rfl⟩ : ∃ n : Nat, v = n := ⟨v.toNat, by omega⟩
    have v2 : (n : Int) < 4294967296 := v1
    have w1 : IntKind.u64.wrap (n : Int) = n := by simp [IntKind.wrap, IntKind.bits, IntKind.signed]; omega
    have w2 : IntKind.u64.wrap ((l.length : Int) - k') = (l.length : Int) - k' := by simp [IntKind.wrap, IntKind.bits, IntKind.signed]; omega
    have w3 : IntKind.i64.wrap (n : Int) = n := by rw [IntKind.wrap_i64]; omega
    rw [Int.toNat_natCast]
    clear hN hr h v0 v1
    by_cases hm : k' + n ≤ l.length
    · rw [if_pos hm]
      have d1 : decide ((n : Int) ≤ (l.length : Int) - k') = true := by simp; omega
      have d2 : (n : Int) ≤ (l.length : Int) - k' := by omega
      have HSu := Lib.hid (fun (W : World) (hs : Sc W p l k') => sub_ok hs n hm)
      clear hm
      go_enter Tryz.func82, Tryz.ntmps82
      go_wp2_with (first
        | (go_at_call 106; go_must ((with_reducible refine HN.out.mono ?_); rintro e w1 ⟨rfl, hs, hg⟩; have HS := Lib.hid hs; have HG := Lib.hid hg; clear hs hg))
        | (go_at_call 109; go_must ((with_reducible refine (at_any HS.out).mono ?_); rintro e w2 ⟨rfl, rfl⟩))
        | (go_at_call 84; go_must ((with_reducible refine (left_any HS.out).mono ?_); rintro e w2 ⟨rfl, m, rfl⟩))
        | (go_at_call 75; go_must ((with_reducible refine (unlessT _ _ _).mono ?_); rintro e w' ⟨rfl, rfl⟩))
        | (go_at_call 117; go_must ((with_reducible refine (HSu.out _ (HS.out.drewN m)).mono ?_); rintro e w3 ⟨q, rfl, hq, hs1, hs2, hg2⟩; have HQ := Lib.hid hq; have HS1 := Lib.hid hs1; have HS2 := Lib.hid hs2; have HG2 := Lib.hid (gb_trans (gb_drewN HG.out m) hg2); clear hq hs1 hs2 hg2)))
      go_ret2
      exact ⟨q, rfl, Nat.le_trans HG.out.size HQ.out, HS1.out, HS2.out, HG2.out⟩
    · rw [if_neg hm]
      have d1 : decide ((n : Int) ≤ (l.length : Int) - k') = false := by simp; omega
      have d2 : ¬ (n : Int) ≤ (l.length : Int) - k' := by omega
      clear hm
      go_enter Tryz.func82, Tryz.ntmps82
      go_wp2_with (first
        | (go_at_call 106; go_must ((with_reducible refine HN.out.mono ?_); rintro e w1 ⟨rfl, hs, hg⟩; have HS := Lib.hid hs; have HG := Lib.hid hg; clear hs hg))
        | (go_at_call 109; go_must ((with_reducible refine (at_any HS.out).mono ?_); rintro e w2 ⟨rfl, rfl⟩))
        | (go_at_call 84; go_must ((with_reducible refine (left_any HS.out).mono ?_); rintro e w2 ⟨rfl, m, rfl⟩))
        | (go_at_call 75; go_must ((with_reducible refine (unlessF _ _ _).mono ?_); rintro e w' ⟨rfl, rfl⟩)))
      exact ⟨rfl, rfl, gb_drewN HG.out m⟩
  | err c2 a =>
    rw [hr] at hN
    rw [Res.bind_err]
    have HN := Lib.hid hN
    clear hN hr h
    go_enter Tryz.func82, Tryz.ntmps82
    go_wp2_with (go_at_call 106; go_must ((with_reducible refine HN.out.mono ?_); rintro e w1 ⟨rfl, hg⟩; have HG := Lib.hid hg; clear hg))
    exact ⟨rfl, rfl, HG.out⟩
theorem left_nat {w : World} {p : Nat} {l : List UInt8} {k : Nat} (h : Sc w p l k) :
    Calls Tryz.prog 84 #[.pointer (some ⟨p, 0, none⟩)] w fun e w' => e = .returned (.int .i64 ((l.length - k : Nat) : Int)) ∧ ∃ m, w' = w.drewN m :=
  (left_any h).mono fun e w' h1 => ⟨by rw [h1.1]; congr 2; have := h.le; omega, h1.2⟩
theorem Row.past {w w' : World} {B b : Nat} {v : Value} {xs : List UInt8} (h : Row w B v xs) (hg : w.grownBy w' (some b)) (hb : b < B) : Row w' B v xs :=
  World.ownsRow.kept h hg (by
    cases hv : v.ownBlock with
    | none => exact .inl rfl
    | some k => exact .inr (by have := (World.ownsRow.lt h k hv).1; simp only [ne_eq, Option.some.injEq]; omega))
theorem Row.slice {w : World} {B : Nat} {v : Value} {xs : List UInt8} (h : Row w B v xs) : ∃ A c, v = .slice A xs.length c := by
  obtain ⟨A, c, e, _⟩ := lies_own h
  exact ⟨A, c, e⟩
/-- Bytes of all that is left. -/
theorem bytes_rest {W : World} {q : Nat} {part y : List UInt8} {j : Nat} (h : Sc W q part j) (hy : y = part.drop j) (hj : j ≤ part.length) (hp : part.length ≤ 1000000) :
    Calls Tryz.prog 83 #[.pointer (some ⟨q, 0, none⟩), .int .i64 ((part.length - j : Nat) : Int)] W fun e w' => ∃ A c, e = .returned (.slice A y.length c) ∧ Row w' W.heap.size (.slice A y.length c) y ∧ Sc w' q part (j + (part.length - j)) ∧ W.grownBy w' (some q) :=
  (bytes_ok h (part.length - j) (by omega) hp).mono fun e w' ⟨v, h1, h2, h3, h4⟩ => by
    rw [show (part.drop j).take (part.length - j) = y by rw [hy]; exact List.take_of_length_le (by rw [List.length_drop]; omega)] at h2
    obtain ⟨A, c, rfl⟩ := h2.slice
    exact ⟨A, c, h1, h2, h3, h4⟩
/-- Left, Bytes of all, at the beginning. -/
theorem left_all {W : World} {q : Nat} {part : List UInt8} (h : Sc W q part 0) :
    Calls Tryz.prog 84 #[.pointer (some ⟨q, 0, none⟩)] W fun e w' => e = .returned (.int .i64 (part.length : Int)) ∧ ∃ m, w' = W.drewN m :=
  (left_nat h).mono fun e w' h1 => h1
theorem bytes_all {W : World} {q : Nat} {part : List UInt8} (h : Sc W q part 0) (hp : part.length ≤ 1000000) :
    Calls Tryz.prog 83 #[.pointer (some ⟨q, 0, none⟩), .int .i64 (part.length : Int)] W fun e w' => ∃ A c, e = .returned (.slice A part.length c) ∧ Row w' W.heap.size (.slice A part.length c) part ∧ Sc w' q part part.length ∧ W.grownBy w' (some q) :=
  (bytes_rest (y := part) h rfl (Nat.zero_le _) hp).mono fun e w' ⟨A, c, h1, h2, h3, h4⟩ => ⟨A, c, h1, h2, by rw [Nat.zero_add, Nat.sub_zero] at h3; exact h3, h4⟩
end Go.Proofs.YtebgmfjgapmpfabGreatDoor

/- datas.Get of any bytes. -/
namespace Go.Proofs.YtebgmfjgapmpfabGreatDoor
open Go.RowKit
set_option linter.unusedVariables false
set_option maxRecDepth 100000

/-- A data segment. -/
noncomputable def daR (l : List UInt8) (k : Nat) : Res Da := (headR l k).bind fun i k1 => (contR l k1).bind fun n k2 => .ok ⟨i, (l.drop k2).take n⟩ (k2 + n)
/-- What Get leaves behind. -/
def GotDa (p : Nat) (l : List UInt8) (r : Res Da) (w : World) (e : Ending) (w' : World) : Prop := match r with
  | .ok x k => ∃ A c, e = .returned (daV x A c) ∧ Sc w' p l k ∧ w.grownBy w' (some p)
  | .err c a => e = .panicked (stopP c a) ∧ w.grownBy w' (some p)
/-- Get once the offset is read: the result's block, the offset's box; what the reader at q turns. -/
structure GBDa (w : World) (q bt : Nat) (i : I) (A : Option Addr) (c : Nat) (W : World) : Prop where
  res : Whole W w.heap.size 61 daZ
  bx : Whole W bt 59 (insC i A c)
  gr : w.grownBy W (some q)
  hp : q < w.heap.size
  lt : w.heap.size < bt
section
variable {w W W' : World} {q bt : Nat} {i : I} {A : Option Addr} {c : Nat}
theorem GBDa.call (h : GBDa w q bt i A c W) (hg : W.grownBy W' (some q)) : GBDa w q bt i A c W' := by
  have a := h.hp
  have b := h.lt
  exact ⟨h.res.grown hg (by simp only [ne_eq, Option.some.injEq]; omega), h.bx.grown hg (by simp only [ne_eq, Option.some.injEq]; omega), gb_trans h.gr hg, a, b⟩
theorem GBDa.start {w w1 : World} (hp : q < w.heap.size) (hg : (w.alloc (.cells daZ 61)).grownBy w1 (some q)) : GBDa w q w1.heap.size i A c (w1.alloc (.cells (insC i A c) 59)) := by
  have hz := hg.size
  rw [size_box] at hz
  exact ⟨((Whole.made w _ _).grown hg (by simp only [ne_eq, Option.some.injEq]; omega)).alloc _, Whole.made _ _ _, gb_alloc (gb_trans (gb_alloc (gb_refl w _) _) hg) _, hp, by omega⟩
theorem GBDa.fin {x0 x1 x2 x3 x4 : Value} (h : GBDa w q bt i A c W) :
    Whole (((((W.setCell ⟨w.heap.size, 0, none⟩ x0).setCell ⟨w.heap.size, 1, none⟩ x1).setCell ⟨w.heap.size, 2, none⟩ x2).setCell ⟨w.heap.size, 3, none⟩ x3).setCell ⟨w.heap.size, 4, none⟩ x4) w.heap.size 61 #[x0, x1, x2, x3, x4] ∧
    W.grownBy (((((W.setCell ⟨w.heap.size, 0, none⟩ x0).setCell ⟨w.heap.size, 1, none⟩ x1).setCell ⟨w.heap.size, 2, none⟩ x2).setCell ⟨w.heap.size, 3, none⟩ x3).setCell ⟨w.heap.size, 4, none⟩ x4) (some w.heap.size) ∧
    w.grownBy (((((W.setCell ⟨w.heap.size, 0, none⟩ x0).setCell ⟨w.heap.size, 1, none⟩ x1).setCell ⟨w.heap.size, 2, none⟩ x2).setCell ⟨w.heap.size, 3, none⟩ x3).setCell ⟨w.heap.size, 4, none⟩ x4) (some q) := by
  obtain ⟨h1, h2⟩ := put5 (u0 := x0) (u1 := x1) (u2 := x2) (u3 := x3) (u4 := x4) h.res
  have := h.hp
  exact ⟨h1, h2, gb_before h.gr h2 (fun g e => .inr (by injection e with e; omega))⟩
end
/-- .. and the part's scanner. -/
structure GPDa (w : World) (p bt : Nat) (i : I) (A : Option Addr) (c : Nat) (q : Nat) (l : List UInt8) (k : Nat) (part : List UInt8) (j : Nat) (W : World) : Prop where
  gb : GBDa w p bt i A c W
  sp : Sc W p l k
  sq : Sc W q part j
  oq : bt < q
section
variable {w W W' : World} {p bt q k j j' : Nat} {i : I} {A : Option Addr} {c : Nat} {l part : List UInt8}
theorem GPDa.drewN (h : GPDa w p bt i A c q l k part j W) (m : Nat) : GPDa w p bt i A c q l k part j (W.drewN m) := ⟨h.gb.call (gb_drewN (gb_refl W _) m), h.sp.drewN m, h.sq.drewN m, h.oq⟩
theorem GPDa.onq (h : GPDa w p bt i A c q l k part j W) (hg : W.grownBy W' (some q)) (hs : Sc W' q part j') : GPDa w p bt i A c q l k part j' W' := by
  obtain ⟨⟨a1, a2, a3, a4, a5⟩, b, d, o⟩ := h
  exact ⟨⟨a1.grown hg (by simp only [ne_eq, Option.some.injEq]; omega), a2.grown hg (by simp only [ne_eq, Option.some.injEq]; omega), gb_before a3 hg (fun g e => .inr (by injection e with e; omega)), a4, a5⟩, b.grown hg (by simp only [ne_eq, Option.some.injEq]; omega) (fun g e => by injection e with e; omega), hs, o⟩
end
set_option maxHeartbeats 4000000 in
theorem get_da {w : World} {p : Nat} {l : List UInt8} {k : Nat} (h : Sc w p l k) (hT : TbP p w) (hl : l.length ≤ 1000000) :
    Calls Tryz.prog 43 #[.pointer (some ⟨p, 0, none⟩)] w (GotDa p l (daR l k) w) := by
  have hp := h.lt
  have hG := gethead_any (h.alloc (.cells daZ 61)) (hT.below (below_box w (.cells daZ 61)) (Nat.le_of_lt hp))
  unfold daR
  cases h1 : headR l k with
  | err ec ea =>
    rw [h1] at hG
    rw [Res.bind_err]
    show Calls _ _ _ _ (fun e w' => e = .panicked (stopP ec ea) ∧ w.grownBy w' (some p))
    have HG := Lib.hid hG
    clear hG h1 h hT
    go_enter Tryz.func43, Tryz.ntmps43
    go_wp2_with (go_at_call 81; go_must ((with_reducible refine HG.out.mono ?_); rintro e w1 ⟨rfl, hg⟩; have HG1 := Lib.hid hg; clear hg))
    exact ⟨rfl, rfl, gb_trans (gb_alloc (gb_refl w _) _) HG1.out⟩
  | ok i k1 =>
    rw [h1] at hG
    rw [Res.bind_ok]
    have HG := Lib.hid (show Calls Tryz.prog 81 #[.pointer (some ⟨p, 0, none⟩)] (w.alloc (.cells daZ 61)) (Gets p l i k1 (w.alloc (.cells daZ 61))) from hG)
    clear hG h1 h hT
    have hC := fun W (hs : Sc W p l k1) => cont_sect hs
    cases h2 : contR l k1 with
    | err ec ea =>
      rw [h2] at hC
      rw [Res.bind_err]
      show Calls _ _ _ _ (fun e w' => e = .panicked (stopP ec ea) ∧ w.grownBy w' (some p))
      have HC := Lib.hid (fun W (hs : Sc W p l k1) => show Calls Tryz.prog 82 #[.pointer (some ⟨p, 0, none⟩)] W (fun e w' => e = .panicked (stopP ec ea) ∧ W.grownBy w' (some p)) from hC W hs)
      clear hC h2
      go_enter Tryz.func43, Tryz.ntmps43
      go_wp2_with (first
        | (go_at_call 81; go_must ((with_reducible refine HG.out.mono ?_); intro e w1 hq; obtain ⟨A, c, rfl, _, _, hs, hg, _⟩ := hq; have HGB := Lib.hid (GBDa.start (i := i) (A := A) (c := c) hp hg); have HS1 := Lib.hid (hs.alloc (.cells (insC i A c) 59)); clear hs hg))
        | (go_at_call 82; go_must ((with_reducible refine (HC.out _ HS1.out).mono ?_); rintro e w2 ⟨rfl, hg⟩; have HG2 := Lib.hid hg; clear hg)))
      exact ⟨rfl, rfl, gb_trans HGB.out.gr HG2.out⟩
    | ok n k2 =>
      rw [h2] at hC
      rw [Res.bind_ok]
      obtain ⟨hk1, hk2⟩ := contR_ok h2
      have HC := Lib.hid (fun W (hs : Sc W p l k1) => show Calls Tryz.prog 82 #[.pointer (some ⟨p, 0, none⟩)] W (fun e w' => ∃ q, e = .returned (.tuple #[.pointer (some ⟨q, 0, none⟩), .int .i64 k2]) ∧ W.heap.size ≤ q ∧ Sc w' q ((l.drop k2).take n) 0 ∧ Sc w' p l (k2 + n) ∧ W.grownBy w' (some p)) from hC W hs)
      have hpl : ((l.drop k2).take n).length = n := by rw [List.length_take, List.length_drop]; omega
      obtain ⟨part, hpart⟩ : ∃ part, part = (l.drop k2).take n := ⟨_, rfl⟩
      rw [← hpart] at hpl HC ⊢
      have hpm : part.length ≤ 1000000 := by omega
      clear hC h2 hpart
      subst hpl
      go_enter Tryz.func43, Tryz.ntmps43
      go_wp2_with (first
        | (go_at_call 81; go_must ((with_reducible refine HG.out.mono ?_); intro e w1 hq; obtain ⟨A, c, rfl, _, _, hs, hg, _⟩ := hq; have HGB := Lib.hid (GBDa.start (i := i) (A := A) (c := c) hp hg); have HS1 := Lib.hid (hs.alloc (.cells (insC i A c) 59)); have hz1 := size_box w1 (.cells (insC i A c) 59); clear hs hg))
        | (go_at_call 82; go_must ((with_reducible refine (HC.out _ HS1.out).mono ?_); rintro e W ⟨q, rfl, hqz, hs1, hs2, hg⟩; have HGP := Lib.hid (show GPDa w p w1.heap.size i A c q l (k2 + part.length) part 0 W from ⟨HGB.out.call hg, hs2, hs1, by omega⟩); clear hqz hs1 hs2 hg)))
      generalize w1.heap.size = bt at *
      have HLF := Lib.hid (left_all (show Sc W.drew q part 0 from HGP.out.sq.drewN 1))
      have HBY := Lib.hid (fun m => bytes_all (show Sc (W.drewN (1 + m)) q part 0 from HGP.out.sq.drewN (1 + m)) hpm)
      have x0 := HGP.out.gb.bx.cell 0
      have x1 := HGP.out.gb.bx.cell 1
      have x2 := HGP.out.gb.bx.cell 2
      have x3 := HGP.out.gb.bx.cell 3
      simp only [List.getElem?_toArray, List.getElem?_cons_zero, List.getElem?_cons_succ] at x0 x1 x2 x3
      clear HC HS1 HGB HG hz1
      go_region_with (first
        | (go_at_call 84; (with_reducible refine HLF.out.mono ?_); rintro e w4 ⟨rfl, m, rfl⟩)
        | (go_at_call 83; (with_reducible refine (HBY.out m).mono ?_); intro e w5 hq; obtain ⟨A5, c5, rfl, hr5, hs5, hg5⟩ := hq; have HG5 := Lib.hid ((HGP.out.drewN (1 + m)).onq hg5 hs5); obtain ⟨A6, c6, e5, _, _, hl5, _⟩ := lies_own hr5; injection e5 with e5a e5b e5c; subst e5a; subst e5c; have hcv := str_any hl5 c5 9 Tryz.underlying9; have y0 := HG5.out.gb.bx.cell 0; have y1 := HG5.out.gb.bx.cell 1; have y2 := HG5.out.gb.bx.cell 2; have y3 := HG5.out.gb.bx.cell 3; simp only [List.getElem?_toArray, List.getElem?_cons_zero, List.getElem?_cons_succ] at y0 y1 y2 y3; have f0 := HG5.out.gb.res.frozen 0; have f1 := HG5.out.gb.res.frozen 1; have f2 := HG5.out.gb.res.frozen 2; have f3 := HG5.out.gb.res.frozen 3; have f4 := HG5.out.gb.res.frozen 4; have z0 := HG5.out.gb.res.cell 0; have z1 := HG5.out.gb.res.cell 1; have z2 := HG5.out.gb.res.cell 2; have z3 := HG5.out.gb.res.cell 3; have z4 := HG5.out.gb.res.cell 4; simp only [List.getElem?_toArray, List.getElem?_cons_zero, List.getElem?_cons_succ] at z0 z1 z2 z3 z4; clear hr5 hs5 hg5 hl5))
      all_goals
        go_wp2
        obtain ⟨h1, h2, h3⟩ := GBDa.fin (x0 := .int .u8 i.op.toNat) (x1 := .int .u64 i.a) (x2 := .int .u64 i.b) (x3 := .slice A i.l.length c) (x4 := .string (S part)) HG5.out.gb
        obtain ⟨q0, q1, q2, q3, q4⟩ := Whole.da (x := ⟨i, part⟩) h1
        have hs3 := HG5.out.sp.grown h2 (by have := HG5.out.gb.hp; simp only [ne_eq, Option.some.injEq]; omega) (fun g e => by have := HG5.out.gb.hp; injection e with e; omega)
        exact bodyPost_ret (v := daV ⟨i, part⟩ A c) (by simp [results, Tryz.results43, go_sem, q0, q1, q2, q3, q4]) rfl ⟨A, c, rfl, hs3, h3⟩
end Go.Proofs.YtebgmfjgapmpfabGreatDoor

/- The reference's Bytes and creelref15.Get, whatever the reader's state. (By gen/genDaRef.py.) -/
namespace Go.Proofs.YtebgmfjgapmpfabGreatDoor
open Go.RowKit
set_option linter.unusedVariables false
set_option maxRecDepth 100000

/-- The state behind so many bytes. -/
def takenS (l : List UInt8) (n : Nat) : RSt → RSt
  | .at k => if k + n ≤ l.length then .at (k + n) else .bad 2 k
  | .bad c a => .bad c a
/-- What Bytes leaves behind. -/
def BytesP (q : Nat) (l : List UInt8) (s : RSt) (n : Nat) (w : World) (e : Ending) (w' : World) : Prop :=
  ∃ t, e = .returned (.string (S t)) ∧ Rs w' q l (takenS l n s) ∧ (∀ k, s = .at k → k + n ≤ l.length → t = (l.drop k).take n) ∧ w.grownBy w' (some q)
set_option maxHeartbeats 1600000 in
theorem bytes_ref {w : World} {q : Nat} {l : List UInt8} {s : RSt} (h : Rs w q l s) (n : Nat) (hn : n ≤ 4294967295) :
    Calls Tryz.prog 89 #[.pointer (some ⟨q, 0, none⟩), .int .i64 n] w (BytesP q l s n w) := by
  cases s with
  | bad c a =>
    have HR := Lib.hid h
    obtain ⟨A, cap, j, h1, _, _, _, hz⟩ := h.badly
    have g2 := h1.cell 2
    simp only [List.getElem?_toArray, List.getElem?_cons_zero, List.getElem?_cons_succ] at g2
    have d : (c != 0) = true := by simpa using hz
    clear h h1 hz
    go_enter Tryz.func89, Tryz.ntmps89
    go_wp2
    go_ret
    exact ⟨[], rfl, HR.out, (fun k e => by cases e), gb_refl _ _⟩
  | «at» k =>
    have HS := Lib.hid h
    obtain ⟨A, cap, h1, h2, h3, h4, h5⟩ := h.good
    have h4' := h4
    unfold maxLen at h4'
    have c0 := h1.cell 0
    have c1 := h1.cell 1
    have c2 := h1.cell 2
    have f1 := h1.frozen 1
    simp only [List.getElem?_toArray, List.getElem?_cons_zero, List.getElem?_cons_succ] at c0 c1 c2
    have d0 : decide ((n : Int) < 0) = false := decide_eq_false (by omega)
    have d0b : ¬ (n : Int) < 0 := by omega
    have e3 : IntKind.i64.wrap ((l.length : Int) - k) = (l.length : Int) - k := by rw [IntKind.wrap_i64]; omega
    by_cases hk : k + n ≤ l.length
    · have d2 : decide ((l.length : Int) - k < (n : Int)) = false := decide_eq_false (by omega)
      have d2b : ¬ (l.length : Int) - k < (n : Int) := by omega
      have e1 : IntKind.i64.wrap ((k : Int) + n) = (k : Int) + n := by rw [IntKind.wrap_i64]; omega
      have e2 : IntKind.i64.wrap ((k : Int) + n - n) = k := by rw [IntKind.wrap_i64]; omega
      have e4 : IntKind.i64.wrap (k : Int) = k := by rw [IntKind.wrap_i64]; omega
      have HM := Lib.hid (fun m => HS.out.moved m ((k : Int) + n) (k + n) (by omega) hk)
      have HLN := Lib.hid (show ((l.drop k).take n).length = n by rw [List.length_take, List.length_drop]; omega)
      clear h h1 h2
      go_enter Tryz.func89, Tryz.ntmps89
      go_wp2
      go_quiet (fail)
      go_wp2
      obtain ⟨hs2, hg2⟩ := HM.out nq
      generalize (w.drewN nq).setCell ⟨q, 1, none⟩ (.int .i64 ((k : Int) + n)) = W at *
      obtain ⟨A2, cap2, j1, j2, j3, j4, j5⟩ := hs2.good
      have b0 := j1.cell 0
      have b1 := j1.cell 1
      simp only [List.getElem?_toArray, List.getElem?_cons_zero, List.getElem?_cons_succ] at b0 b1
      rw [show ((k + n : Nat) : Int) = (k : Int) + n by omega] at b1
      obtain ⟨A', hcut, hcl⟩ := cut_run A2 l.length cap2 k n hk j3
      have hls : Lies W q A' (cells (nums ((l.drop k).take n))) := by have := hcl W q (nums l) j2; unfold nums at *; rw [List.map_take, List.map_drop]; exact this
      have hcv : ∀ m, (convert 32 9 (.slice A' n (cap2 - k))).run Tryz.prog (W.drewN m) = .ok (.string (S ((l.drop k).take n))) (W.drewN m) := fun m => by
        have := str_any (w := W.drewN m) (show Lies (W.drewN m) q A' (cells (nums ((l.drop k).take n))) from hls) (cap2 - k) 9 Tryz.underlying9
        rwa [HLN.out] at this
      have hcv0 := hcv 0
      rw [show W.drewN 0 = W from rfl] at hcv0
      have HS2 := Lib.hid hs2
      have HG2 := Lib.hid hg2
      obtain ⟨t, ht⟩ : ∃ t, t = (l.drop k).take n := ⟨_, rfl⟩
      rw [← ht] at hcv hcv0
      have HTT := Lib.hid ht
      clear hs2 hg2 j1 j2 c0 c1 c2 f1 hcl hls ht
      go_quiet (fail)
      go_wp2
      go_ret
      exact ⟨t, rfl, by show Rs _ q l (if k + n ≤ l.length then .at (k + n) else .bad 2 k); rw [if_pos hk]; exact HS2.out.drewN _, (fun j e _ => by injection e with e; subst e; exact HTT.out), gb_drewN HG2.out _⟩
    · have d2 : decide ((l.length : Int) - k < (n : Int)) = true := decide_eq_true (by omega)
      have d2b : (l.length : Int) - k < (n : Int) := by omega
      have HF := Lib.hid (fun m => show Calls Tryz.prog 86 #[.pointer (some ⟨q, 0, none⟩), .int .i64 2, .int .i64 k] (w.drewN m) fun e w' => e = .returned (.tuple #[]) ∧ Rs w' q l (.bad 2 k) ∧ (w.drewN m).grownBy w' (some q) from fail_ref (HS.out.drewN m) 2 k (by decide))
      clear h h1 h2
      go_enter Tryz.func89, Tryz.ntmps89
      go_wp2
      go_quiet (fail)
      go_wp2_with (go_at_call 86; go_must ((with_reducible refine (HF.out _).mono ?_); rintro e w1 ⟨rfl, hs, hg⟩; have HS1 := Lib.hid hs; have HG1 := Lib.hid hg; clear hs hg))
      go_ret
      exact ⟨[], rfl, by show Rs _ q l (if k + n ≤ l.length then .at (k + n) else .bad 2 k); rw [if_neg hk]; exact HS1.out, (fun j e h => by injection e with e; subst e; exact absurd h hk), gb_trans (gb_drewN (gb_refl w _) _) HG1.out⟩
/-- How far the reference's Get has come: its result's block, the segment's box, the reader. -/
structure RLd (w : World) (q : Nat) (l : List UInt8) (bt : Nat) (i : I) (A : Option Addr) (c : Nat) (s : RSt) (v : Value) (W : World) : Prop where
  res : Whole W w.heap.size 61 daZ
  box : Whole W bt 61 #[.int .u8 i.op.toNat, .int .u64 i.a, .int .u64 i.b, .slice A i.l.length c, v]
  rs : Rs W q l s
  gr : w.grownBy W (some q)
  hq : q < w.heap.size
  h2 : w.heap.size < bt
section
variable {w : World} {q : Nat} {l : List UInt8} {bt : Nat} {i : I} {A : Option Addr} {c : Nat} {s s' : RSt} {W W' : World} {v v' : Value}
theorem RLd.start {w w1 : World} (hq : q < w.heap.size) (hg : (w.alloc (.cells daZ 61)).grownBy w1 (some q)) (hs : Rs w1 q l s) : RLd w q l w1.heap.size i A c s (.string { data := #[] }) (w1.alloc (.cells #[.int .u8 i.op.toNat, .int .u64 i.a, .int .u64 i.b, .slice A i.l.length c, .string { data := #[] }] 61)) := by
  have hz := hg.size
  rw [size_box] at hz
  exact ⟨((Whole.made w _ _).grown hg (by simp only [ne_eq, Option.some.injEq]; omega)).alloc _, Whole.made _ _ _, hs.alloc _, gb_alloc (gb_trans (gb_alloc (gb_refl w _) _) hg) _, hq, by omega⟩
theorem RLd.call (h : RLd w q l bt i A c s v W) (hs : Rs W' q l s') (hg : W.grownBy W' (some q)) : RLd w q l bt i A c s' v W' := by
  have a := h.hq
  have b := h.h2
  exact ⟨h.res.grown hg (by simp only [ne_eq, Option.some.injEq]; omega), h.box.grown hg (by simp only [ne_eq, Option.some.injEq]; omega), hs, gb_trans h.gr hg, h.hq, h.h2⟩
theorem RLd.store (h : RLd w q l bt i A c s v W) : RLd w q l bt i A c s v' (W.setCell ⟨bt, 4, none⟩ v') := by
  have a := h.hq
  have b := h.h2
  have hg : W.grownBy (W.setCell ⟨bt, 4, none⟩ v') (some bt) := gb_put (p := ⟨bt, 4, none⟩) (gb_refl W _) (.inl rfl) v'
  exact ⟨h.res.grown hg (by simp only [ne_eq, Option.some.injEq]; omega), h.box.put 4 v', h.rs.grown hg (by simp only [ne_eq, Option.some.injEq]; omega) (fun g e => by injection e with e; omega), gb_before h.gr hg (fun g e => .inr (by injection e with e; omega)), h.hq, h.h2⟩
end
/-- What creelref15.Get leaves behind. -/
def RGotDa (q : Nat) (l : List UInt8) (r : Res Da) (w : World) (e : Ending) (w' : World) : Prop :=
  ∃ (x : Da) (A : Option Addr) (c : Nat), e = .returned (daV x A c) ∧ Rs w' q l (stOf r) ∧ (∀ y k, r = .ok y k → x = y) ∧ w.grownBy w' (some q)
theorem RLd.fin {w : World} {q : Nat} {l : List UInt8} {bt : Nat} {i : I} {A : Option Addr} {c : Nat} {s : RSt} {t : List UInt8} {W : World} (h : RLd w q l bt i A c s (.string (S t)) W) {T : Res Da} (hT : stOf T = s) (hv : ∀ y k, T = .ok y k → (⟨i, t⟩ : Da) = y) (W4 : World) (hW : W4 = ((((W.setCell ⟨w.heap.size, 0, none⟩ (.int .u8 i.op.toNat)).setCell ⟨w.heap.size, 1, none⟩ (.int .u64 i.a)).setCell ⟨w.heap.size, 2, none⟩ (.int .u64 i.b)).setCell ⟨w.heap.size, 3, none⟩ (.slice A i.l.length c)).setCell ⟨w.heap.size, 4, none⟩ (.string (S t))) :
    FiveDa W4 w.heap.size ⟨i, t⟩ A c ∧ RGotDa q l T w (.returned (daV ⟨i, t⟩ A c)) W4 := by
  subst hW
  have a := h.hq
  have b := h.h2
  obtain ⟨h1, h2⟩ := put5 (u0 := .int .u8 i.op.toNat) (u1 := .int .u64 i.a) (u2 := .int .u64 i.b) (u3 := .slice A i.l.length c) (u4 := .string (S t)) h.res
  exact ⟨Whole.da (x := ⟨i, t⟩) h1, ⟨i, t⟩, A, c, rfl, by rw [hT]; exact h.rs.grown h2 (by simp only [ne_eq, Option.some.injEq]; omega) (fun g e => by injection e with e; omega), hv, gb_before h.gr h2 (fun g e => .inr (by injection e with e; omega))⟩
/-- The number of bytes, the state behind it, the state behind the bytes. -/
theorem da_fin {l : List UInt8} (X : Res I) : ∃ (n : Nat) (s4 : RSt), n ≤ 4294967295 ∧ vZ ((stOf X).bind (indexR l)) = n ∧ stOf ((stOf X).bind (indexR l)) = s4 ∧
    stOf (X.bind fun i k1 => (contR l k1).bind fun m k2 => .ok (⟨i, (l.drop k2).take m⟩ : Da) (k2 + m)) = takenS l n s4 ∧
    ∀ (i : I) (t : List UInt8), (∀ y k, X = .ok y k → i = y) → (∀ k, s4 = .at k → k + n ≤ l.length → t = (l.drop k).take n) → ∀ y k, (X.bind fun i k1 => (contR l k1).bind fun m k2 => .ok (⟨i, (l.drop k2).take m⟩ : Da) (k2 + m)) = .ok y k → (⟨i, t⟩ : Da) = y := by
  cases X with
  | err c a => exact ⟨0, .bad c a, by omega, rfl, rfl, rfl, fun i t _ _ y k e => by cases e⟩
  | ok j k1 =>
    rw [Res.bind_ok]
    show ∃ (n : Nat) (s4 : RSt), n ≤ 4294967295 ∧ vZ (indexR l k1) = n ∧ stOf (indexR l k1) = s4 ∧ stOf ((contR l k1).bind fun m k2 => .ok (⟨j, (l.drop k2).take m⟩ : Da) (k2 + m)) = takenS l n s4 ∧
      ∀ (i : I) (t : List UInt8), (∀ y k, Res.ok j k1 = .ok y k → i = y) → (∀ k, s4 = .at k → k + n ≤ l.length → t = (l.drop k).take n) → ∀ y k, ((contR l k1).bind fun m k2 => .ok (⟨j, (l.drop k2).take m⟩ : Da) (k2 + m)) = .ok y k → (⟨i, t⟩ : Da) = y
    unfold contR
    cases hr : indexR l k1 with
    | err c a => exact ⟨0, .bad c a, by omega, rfl, rfl, rfl, fun i t _ _ y k e => by cases e⟩
    | ok v k2 =>
      obtain ⟨_, v0, v1⟩ := indexR_ok hr
      obtain ⟨n, rfl⟩ : ∃ n : Nat, v = n := ⟨v.toNat, by omega⟩
      rw [Res.bind_ok, Int.toNat_natCast]
      refine ⟨n, .at k2, by omega, rfl, rfl, ?_, ?_⟩
      · show _ = (if k2 + n ≤ l.length then RSt.at (k2 + n) else RSt.bad 2 k2 : RSt)
        by_cases hm : k2 + n ≤ l.length
        · rw [if_pos hm, if_pos hm]; rfl
        · rw [if_neg hm, if_neg hm]; rfl
      · intro i t hi ht y k e
        obtain rfl := hi _ _ rfl
        by_cases hm : k2 + n ≤ l.length
        · rw [if_pos hm, Res.bind_ok] at e
          injection e with e1 e2
          rw [ht k2 rfl hm]
          exact e1
        · rw [if_neg hm, Res.bind_err] at e
          cases e
set_option maxHeartbeats 8000000 in
theorem rget_da {w : World} {q : Nat} {l : List UInt8} {s : RSt} (h : Rs w q l s) :
    Calls Tryz.prog 45 #[.pointer (some ⟨q, 0, none⟩)] w (RGotDa q l (s.bind (daR l)) w) := by
  have hq := h.lt
  obtain ⟨⟨j0, y1⟩, hpre⟩ := pre_ref (h.alloc (.cells daZ 61))
  obtain ⟨s1, hs1⟩ : ∃ s1, s1 = stOf (s.bind (noughtR l)) := ⟨_, rfl⟩
  have hX : s.bind (daR l) = (s1.bind (readR l)).bind fun i k1 => (contR l k1).bind fun m k2 => .ok (⟨i, (l.drop k2).take m⟩ : Da) (k2 + m) := by
    rw [hs1]
    cases s with
    | bad c a => rfl
    | «at» k =>
      show daR l k = ((stOf (noughtR l k)).bind (readR l)).bind _
      unfold daR headR
      cases noughtR l k <;> rfl
  rw [hX]
  obtain ⟨X, hXe⟩ : ∃ X, X = s1.bind (readR l) := ⟨_, rfl⟩
  have HC := Lib.hid (fun W (g : Rs W q l s1) => show Calls Tryz.prog 88 #[.pointer (some ⟨q, 0, none⟩)] W fun e w' => ∃ (i : I) (A : Option Addr) (c : Nat), e = .returned (insV i A c) ∧ Rs w' q l (stOf X) ∧ (∀ y k, X = .ok y k → i = y) ∧ W.grownBy w' (some q) from by have := refC_v g; rw [← hXe] at this; exact this)
  rw [← hXe]
  obtain ⟨n, s4, hn0, hv0, hs4, hst, hfin⟩ := da_fin (l := l) X
  obtain ⟨T, hT⟩ : ∃ T, T = X.bind fun i k1 => (contR l k1).bind fun m k2 => .ok (⟨i, (l.drop k2).take m⟩ : Da) (k2 + m) := ⟨_, rfl⟩
  rw [← hT] at hst hfin ⊢
  have HX0 := Lib.hid (fun W (h : Rs W q l (stOf X)) => show Calls Tryz.prog 85 #[.pointer (some ⟨q, 0, none⟩)] W fun e w' => e = .returned (.int .u32 n) ∧ Rs w' q l s4 ∧ W.grownBy w' (some q) from by have := index_ref h; rw [hv0, hs4] at this; exact this)
  have HBY := Lib.hid (fun W (h : Rs W q l s4) => show Calls Tryz.prog 89 #[.pointer (some ⟨q, 0, none⟩), .int .i64 n] W fun e w' => ∃ t, e = .returned (.string (S t)) ∧ Rs w' q l (takenS l n s4) ∧ (∀ k, s4 = .at k → k + n ≤ l.length → t = (l.drop k).take n) ∧ W.grownBy w' (some q) from bytes_ref h n hn0)
  have HST := Lib.hid hst
  have HFI := Lib.hid hfin
  have hwn : IntKind.i64.wrap (n : Int) = n := by rw [IntKind.wrap_i64]; omega
  rw [← hs1] at hpre
  clear hv0 hs4 hst hfin hT hX hXe hn0
  rcases hpre with hB | ⟨k, k', c0, rfl, dc, hs1b, y1b, hB⟩
  · have HB := Lib.hid hB
    have hq0 := hq
    clear h hB hs1
    go_enter Tryz.func45, Tryz.ntmps45
    go_wp2_with (first
      | (go_at_call 87; go_must ((with_reducible refine HB.out.mono ?_); rintro e w1 ⟨rfl, hs, hg⟩; have HS1 := Lib.hid hs; have HG1 := Lib.hid hg; clear hs hg y1))
      | (go_at_call 88; go_must ((with_reducible refine (HC.out _ HS1.out).mono ?_); intro e w3 hq2; obtain ⟨i, A, c, rfl, hs, hv, hg⟩ := hq2; have HV := Lib.hid hv; have HG3 := Lib.hid (RLd.start (i := i) (A := A) (c := c) hq0 (gb_trans HG1.out hg) hs); clear hs hv hg))
      | (go_at_call 85; go_must ((with_reducible refine (HX0.out _ HG3.out.rs).mono ?_); rintro e w4 ⟨rfl, hs, hg⟩; have HG4 := Lib.hid (HG3.out.call hs hg); clear hs hg))
      | (go_at_call 89; go_must ((with_reducible refine (HBY.out _ HG4.out.rs).mono ?_); intro e w5 hq2; obtain ⟨t, rfl, hs, ht, hg⟩ := hq2; have HT5 := Lib.hid ht; have HG5 := Lib.hid (HG4.out.call hs hg); obtain ⟨bt, hbt⟩ : ∃ bt, bt = w3.heap.size := ⟨_, rfl⟩; rw [← hbt] at HG5 ⊢; have b0 := HG5.out.box.cell 0; have b1 := HG5.out.box.cell 1; have b2 := HG5.out.box.cell 2; have b3 := HG5.out.box.cell 3; have b4 := HG5.out.box.cell 4; have f4 := HG5.out.box.frozen 4; have r0 := HG5.out.res.cell 0; have r1 := HG5.out.res.cell 1; have r2 := HG5.out.res.cell 2; have r3 := HG5.out.res.cell 3; have r4 := HG5.out.res.cell 4; have z0 := HG5.out.res.frozen 0; have z1 := HG5.out.res.frozen 1; have z2 := HG5.out.res.frozen 2; have z3 := HG5.out.res.frozen 3; have z4 := HG5.out.res.frozen 4; simp only [List.getElem?_toArray, List.getElem?_cons_zero, List.getElem?_cons_succ] at b0 b1 b2 b3 b4 r0 r1 r2 r3 r4; have hh2 := HG5.out.h2; have nn1 : ¬ bt = w.heap.size := (by omega); have nn2 : ¬ w.heap.size = bt := (by omega); clear hs ht hg hbt)))
    obtain ⟨⟨q0, q1, q2, q3, q4⟩, hf⟩ := RLd.fin (HG5.out.store (v' := .string (S t))) (T := T) HST.out (HFI.out i t HV.out HT5.out) _ rfl
    exact bodyPost_ret (v := daV ⟨i, t⟩ A c) (by simp [results, Tryz.results45, go_sem, q0, q1, q2, q3, q4]) rfl hf
  · clear hs1
    subst hs1b
    have HB := Lib.hid hB
    have hq0 := hq
    have HF := Lib.hid (fun W (g : Rs W q l (.at k')) => show Calls Tryz.prog 86 #[.pointer (some ⟨q, 0, none⟩), .int .i64 10, .int .i64 k] W fun e w' => e = .returned (.tuple #[]) ∧ Rs w' q l (.bad 10 k) ∧ W.grownBy w' (some q) from fail_ref g 10 k (by decide))
    clear h hB y1
    go_enter Tryz.func45, Tryz.ntmps45
    go_wp2_with (first
      | (go_at_call 87; go_must ((with_reducible refine HB.out.mono ?_); rintro e w1 ⟨rfl, hs, hg⟩; have HS1 := Lib.hid hs; have HG1 := Lib.hid hg; clear hs hg y1b))
      | (go_at_call 86; go_must ((with_reducible refine (HF.out _ HS1.out).mono ?_); rintro e w2 ⟨rfl, hs, hg⟩; have HS2 := Lib.hid hs; have HG2 := Lib.hid (gb_trans HG1.out hg); clear hs hg))
      | (go_at_call 88; go_must ((with_reducible refine (HC.out _ HS2.out).mono ?_); intro e w3 hq2; obtain ⟨i, A, c, rfl, hs, hv, hg⟩ := hq2; have HV := Lib.hid hv; have HG3 := Lib.hid (RLd.start (i := i) (A := A) (c := c) hq0 (gb_trans HG2.out hg) hs); clear hs hv hg))
      | (go_at_call 85; go_must ((with_reducible refine (HX0.out _ HG3.out.rs).mono ?_); rintro e w4 ⟨rfl, hs, hg⟩; have HG4 := Lib.hid (HG3.out.call hs hg); clear hs hg))
      | (go_at_call 89; go_must ((with_reducible refine (HBY.out _ HG4.out.rs).mono ?_); intro e w5 hq2; obtain ⟨t, rfl, hs, ht, hg⟩ := hq2; have HT5 := Lib.hid ht; have HG5 := Lib.hid (HG4.out.call hs hg); obtain ⟨bt, hbt⟩ : ∃ bt, bt = w3.heap.size := ⟨_, rfl⟩; rw [← hbt] at HG5 ⊢; have b0 := HG5.out.box.cell 0; have b1 := HG5.out.box.cell 1; have b2 := HG5.out.box.cell 2; have b3 := HG5.out.box.cell 3; have b4 := HG5.out.box.cell 4; have f4 := HG5.out.box.frozen 4; have r0 := HG5.out.res.cell 0; have r1 := HG5.out.res.cell 1; have r2 := HG5.out.res.cell 2; have r3 := HG5.out.res.cell 3; have r4 := HG5.out.res.cell 4; have z0 := HG5.out.res.frozen 0; have z1 := HG5.out.res.frozen 1; have z2 := HG5.out.res.frozen 2; have z3 := HG5.out.res.frozen 3; have z4 := HG5.out.res.frozen 4; simp only [List.getElem?_toArray, List.getElem?_cons_zero, List.getElem?_cons_succ] at b0 b1 b2 b3 b4 r0 r1 r2 r3 r4; have hh2 := HG5.out.h2; have nn1 : ¬ bt = w.heap.size := (by omega); have nn2 : ¬ w.heap.size = bt := (by omega); clear hs ht hg hbt)))
    obtain ⟨⟨q0, q1, q2, q3, q4⟩, hf⟩ := RLd.fin (HG5.out.store (v' := .string (S t))) (T := T) HST.out (HFI.out i t HV.out HT5.out) _ rfl
    exact bodyPost_ret (v := daV ⟨i, t⟩ A c) (by simp [results, Tryz.results45, go_sem, q0, q1, q2, q3, q4]) rfl hf
end Go.Proofs.YtebgmfjgapmpfabGreatDoor
