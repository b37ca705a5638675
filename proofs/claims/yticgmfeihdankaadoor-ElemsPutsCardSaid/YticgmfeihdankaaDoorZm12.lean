/- consts.Read of any bytes. -/
import Derived.Test.YticgmfeihdankaaDoorZm11
import Derived.Test.YticgmfeihdankaaDoorZm07
import Derived.Test.YticgmfeihdankaaDoorZm08
import Derived.Test.YticgmfeihdankaaDoorZm06
import Derived.Test.YticgmfeihdankaaDoorZm10
import Derived.Test.YticgmfeihdankaaDoorZm09
import Derived.RegionTactic
namespace Go.Proofs.YticgmfeihdankaaDoor
open Go.RowKit
set_option linter.unusedVariables false
set_option maxRecDepth 100000

/-- How far Read has come: its result's block, the instruction's box, the scanner. -/
structure RdS (w : World) (p : Nat) (l : List UInt8) (H2 : Nat) (i : I) (A : Option Addr) (c k : Nat) (W : World) : Prop where
  res : Whole W w.heap.size 25 #[.int .u8 0, .int .u64 0, .int .u64 0, .slice none 0 0]
  box : Whole W H2 25 (insC i A c)
  sc : Sc W p l k
  gr : w.grownBy W (some p)
  hp : p < w.heap.size
  h2 : w.heap.size < H2
  tb : TbP p W
  ty : LabT W A i.l
  far : ∀ a, A = some a → w.heap.size ≤ a.block
section
variable {w : World} {p : Nat} {l : List UInt8} {H2 : Nat} {i : I} {A : Option Addr} {c k k' : Nat} {W W' : World}
theorem Sc.whole {w : World} {p : Nat} {l : List UInt8} {k : Nat} (h : Sc w p l k) : ∃ cs, Whole w p 117 cs := by
  obtain ⟨A, cap, h1, _⟩ := h
  exact ⟨_, h1⟩
theorem RdS.call (h : RdS w p l H2 i A c k W) (hs : Sc W' p l k') (hg : W.grownBy W' (some p)) : RdS w p l H2 i A c k' W' := by
  have a := h.hp
  have b := h.h2
  obtain ⟨cs, hw⟩ := h.sc.whole
  exact ⟨h.res.grown hg (by simp only [ne_eq, Option.some.injEq]; omega), h.box.grown hg (by simp only [ne_eq, Option.some.injEq]; omega), hs, gb_trans h.gr hg, h.hp, h.h2, h.tb.self hg, h.ty.keep hg (h.ty.apart hw (by decide)), h.far⟩
theorem RdS.below (h : RdS w p l H2 i A c k W) (hb : Below W.heap.size W W') : RdS w p l H2 i A c k W' := h.call (h.sc.below hb) (gb_of_below _ hb)
theorem RdS.fin (h : RdS w p l H2 i A c k W) (W4 : World) (hW : W4 = (((W.setCell ⟨w.heap.size, 0, none⟩ (.int .u8 i.op.toNat)).setCell ⟨w.heap.size, 1, none⟩ (.int .u64 i.a)).setCell ⟨w.heap.size, 2, none⟩ (.int .u64 i.b)).setCell ⟨w.heap.size, 3, none⟩ (.slice A i.l.length c)) :
    Whole W4 w.heap.size 25 (insC i A c) ∧ Gets p l i k w (.returned (insV i A c)) W4 := by
  subst hW
  have a := h.hp
  have b := h.h2
  have hg := gb_put (p := ⟨w.heap.size, 3, none⟩) (gb_put (p := ⟨w.heap.size, 2, none⟩) (gb_put (p := ⟨w.heap.size, 1, none⟩) (gb_put (p := ⟨w.heap.size, 0, none⟩) (gb_refl W (some w.heap.size)) (.inl rfl) (.int .u8 i.op.toNat)) (.inl rfl) (.int .u64 i.a)) (.inl rfl) (.int .u64 i.b)) (.inl rfl) (.slice A i.l.length c)
  have hty := h.ty.keep hg (h.ty.apart h.res (by decide))
  exact ⟨(((h.res.put 0 (.int .u8 i.op.toNat)).put 1 (.int .u64 i.a)).put 2 (.int .u64 i.b)).put 3 (.slice A i.l.length c),
    A, c, rfl, hty.lies, h.far, h.sc.grown hg (by simp only [ne_eq, Option.some.injEq]; omega) (fun g e => by injection e with e; omega), gb_before h.gr hg (fun g e => .inr (by injection e with e; omega)), hty⟩
end
set_option maxHeartbeats 4000000 in
theorem cread_any {w : World} {p : Nat} {l : List UInt8} {k : Nat} (hs : Sc w p l k) (hT : TbP p w) :
    Calls Tryd.prog 51 #[.pointer (some ⟨p, 0, none⟩)] w (GetsR p l (readR l k) w) := by
  have hlt := hs.lt
  have HZ : Hid (Sc (w.alloc (.cells #[.int .u8 0, .int .u64 0, .int .u64 0, .slice none 0 0] 25)) p l k ∧ TbP p (w.alloc (.cells #[.int .u8 0, .int .u64 0, .int .u64 0, .slice none 0 0] 25))) := ⟨hs.alloc _, hT.below (below_box w _) (by omega)⟩
  have hG := getA_any HZ.out.1 HZ.out.2
  have HAT := Lib.hid (at_any HZ.out.1)
  unfold readR
  cases hr : getR l k with
  | err ec ea =>
    rw [hr] at hG
    rw [Res.bind_err]
    show Calls _ _ _ _ (fun e w' => e = .panicked (stopP ec ea) ∧ w.grownBy w' (some p))
    have HG := Lib.hid hG
    clear hs hT hG hr HZ
    go_enter Tryd.func51, Tryd.ntmps51
    go_wp2_with (first
      | (go_at_call 53; go_must ((with_reducible refine HAT.out.mono ?_); rintro e w' ⟨rfl, rfl⟩))
      | (go_at_call 93; go_must ((with_reducible refine HG.out.mono ?_); rintro e w1 ⟨rfl, hg⟩; have HGE := Lib.hid hg; clear hg)))
    exact ⟨rfl, rfl, gb_trans (gb_alloc (gb_refl w _) _) HGE.out⟩
  | ok i k1 =>
    rw [hr] at hG
    rw [Res.bind_ok]
    obtain ⟨oi, hl10, hk1⟩ := getR_ok hr
    have HG := Lib.hid (show Calls Tryd.prog 93 #[.pointer (some ⟨p, 0, none⟩)] (w.alloc (.cells #[.int .u8 0, .int .u64 0, .int .u64 0, .slice none 0 0] 25)) (Gets p l i k1 (w.alloc (.cells #[.int .u8 0, .int .u64 0, .int .u64 0, .slice none 0 0] 25))) from hG)
    have HWM := Lib.hid (Whole.made w 25 #[.int .u8 0, .int .u64 0, .int .u64 0, .slice none 0 0])
    have hstart : ∀ w1 (A : Option Addr) (c : Nat), Sc w1 p l k1 → (w.alloc (.cells #[.int .u8 0, .int .u64 0, .int .u64 0, .slice none 0 0] 25)).grownBy w1 (some p) → LabT w1 A i.l → (∀ a, A = some a → (w.alloc (.cells #[.int .u8 0, .int .u64 0, .int .u64 0, .slice none 0 0] 25)).heap.size ≤ a.block) →
        RdS w p l w1.heap.size i A c k1 (w1.alloc (.cells (insC i A c) 25)) := fun w1 A c hs1 hg1 hty hfar => by
      have hz := hg1.size
      rw [size_box] at hz
      exact ⟨(HWM.out.grown hg1 (by simp only [ne_eq, Option.some.injEq]; omega)).alloc _, Whole.made _ _ _, hs1.alloc _, gb_alloc (gb_trans (gb_alloc (gb_refl w _) _) hg1) _, hlt, by omega, (HZ.out.2.self hg1).below (below_box w1 _) (by omega), hty.keep (gb_of_below none (below_box w1 _)) (fun a e => by simp), fun a ha => by have := hfar a ha; rw [size_box] at this; omega⟩
    have HST := Lib.hid hstart
    have HCR := Lib.hid (fun W (A : Option Addr) (c : Nat) (h : Tabs W) => cright_any i A c W oi h (by omega))
    clear hs hT hG hr hstart hl10 hk1 oi
    obtain ⟨z, hz⟩ : ∃ z, z = crightZ i := ⟨_, rfl⟩
    rw [← hz] at HCR ⊢
    clear hz
    by_cases h0 : z = 0
    · subst h0
      rw [if_pos rfl]
      have hB := fun W (h : Sc W p l k1) => byte_any h
      have HA1 := Lib.hid (fun W (h : Sc W p l k1) => at_any h)
      cases hb : byteR l k1 with
      | err ec ea =>
        rw [Res.bind_err]
        show Calls _ _ _ _ (fun e w' => e = .panicked (stopP ec ea) ∧ w.grownBy w' (some p))
        have HB := Lib.hid (fun W (h : Sc W p l k1) => show Calls Tryd.prog 102 #[.pointer (some ⟨p, 0, none⟩)] W (Did encB p l W (.err ec ea)) from by have := hB W h; rw [hb] at this; exact this)
        clear hB hb HZ
        go_enter Tryd.func51, Tryd.ntmps51
        go_wp2_with (first
          | (have tok := HG2; go_at_call 53; go_must ((with_reducible refine (HA1.out _ HG2.out.sc).mono ?_); rintro e w' ⟨rfl, rfl⟩))
          | (go_at_call 53; go_must ((with_reducible refine HAT.out.mono ?_); rintro e w' ⟨rfl, rfl⟩))
          | (go_at_call 93; go_must ((with_reducible refine HG.out.mono ?_); intro e w1 hq; obtain ⟨A, c, rfl, hla, hfar, hs, hg, hty⟩ := hq; have HG1 := Lib.hid (HST.out w1 A c hs hg hty hfar); have c0 := HG1.out.box.cell 0; have c1 := HG1.out.box.cell 1; have c2 := HG1.out.box.cell 2; have c3 := HG1.out.box.cell 3; simp only [List.getElem?_toArray, List.getElem?_cons_zero, List.getElem?_cons_succ] at c0 c1 c2 c3; clear hla hfar hs hg hty))
          | (go_at_call 47; go_must ((with_reducible refine (HCR.out _ _ _ HG1.out.tb.tabs).mono ?_); rintro e w2 ⟨rfl, hb2⟩; have HG2 := Lib.hid (HG1.out.below hb2); clear hb2))
          | (go_at_call 101; go_must ((with_reducible refine (unlessT _ _ _).mono ?_); rintro e w' ⟨rfl, rfl⟩))
          | (go_at_call 102; go_must ((with_reducible refine (HB.out _ HG2.out.sc).mono ?_); rintro e w3 ⟨rfl, hg⟩; have HGE := Lib.hid hg; clear hg)))
        exact ⟨rfl, rfl, gb_trans HG2.out.gr HGE.out⟩
      | ok d k2 =>
        rw [Res.bind_ok]
        have HB := Lib.hid (fun W (h : Sc W p l k1) => show Calls Tryd.prog 102 #[.pointer (some ⟨p, 0, none⟩)] W (Did encB p l W (.ok d k2)) from by have := hB W h; rw [hb] at this; exact this)
        clear hB hb HZ
        by_cases hd : d = 11
        · rw [if_pos hd]
          show Calls _ _ _ _ (Gets p l i k2 w)
          have dd : ((d.toNat : Int) == 11) = true := by rw [hd]; rfl
          clear hd
          go_enter Tryd.func51, Tryd.ntmps51
          go_wp2_with (first
            | (have tok := HG2; go_at_call 53; go_must ((with_reducible refine (HA1.out _ HG2.out.sc).mono ?_); rintro e w' ⟨rfl, rfl⟩))
            | (go_at_call 53; go_must ((with_reducible refine HAT.out.mono ?_); rintro e w' ⟨rfl, rfl⟩))
            | (go_at_call 93; go_must ((with_reducible refine HG.out.mono ?_); intro e w1 hq; obtain ⟨A, c, rfl, hla, hfar, hs, hg, hty⟩ := hq; have HG1 := Lib.hid (HST.out w1 A c hs hg hty hfar); have c0 := HG1.out.box.cell 0; have c1 := HG1.out.box.cell 1; have c2 := HG1.out.box.cell 2; have c3 := HG1.out.box.cell 3; have hh := HG1.out.h2; have n1 : ¬ w1.heap.size = w.heap.size := (by omega); have n2 : ¬ w.heap.size = w1.heap.size := (by omega); simp only [List.getElem?_toArray, List.getElem?_cons_zero, List.getElem?_cons_succ] at c0 c1 c2 c3; clear hla hfar hs hg hty hh))
            | (go_at_call 47; go_must ((with_reducible refine (HCR.out _ _ _ HG1.out.tb.tabs).mono ?_); rintro e w2 ⟨rfl, hb2⟩; have HG2 := Lib.hid (HG1.out.below hb2); clear hb2 c0 c1 c2 c3))
            | (go_at_call 101; go_must ((with_reducible refine (unlessT _ _ _).mono ?_); rintro e w' ⟨rfl, rfl⟩))
            | (go_at_call 102; go_must ((with_reducible refine (HB.out _ HG2.out.sc).mono ?_); rintro e w3 ⟨rfl, hs, hg⟩; have HG3 := Lib.hid (HG2.out.call hs hg); have c0 := HG3.out.box.cell 0; have c1 := HG3.out.box.cell 1; have c2 := HG3.out.box.cell 2; have c3 := HG3.out.box.cell 3; have r0 := HG3.out.res.cell 0; have r1 := HG3.out.res.cell 1; have r2 := HG3.out.res.cell 2; have r3 := HG3.out.res.cell 3; have z0 := HG3.out.res.frozen 0; have z1 := HG3.out.res.frozen 1; have z2 := HG3.out.res.frozen 2; have z3 := HG3.out.res.frozen 3; simp only [List.getElem?_toArray, List.getElem?_cons_zero, List.getElem?_cons_succ] at c0 c1 c2 c3 r0 r1 r2 r3; clear hs hg)))
          obtain ⟨q4, hf⟩ := HG3.out.fin _ rfl
          have q0 := q4.cell 0
          have q1 := q4.cell 1
          have q2 := q4.cell 2
          have q3 := q4.cell 3
          simp only [List.getElem?_toArray, List.getElem?_cons_zero, List.getElem?_cons_succ] at q0 q1 q2 q3
          exact bodyPost_ret (v := insV i A c) (by simp [results, Tryd.results51, go_sem, q0, q1, q2, q3]) rfl hf
        · rw [if_neg hd]
          show Calls _ _ _ _ (fun e w' => e = .panicked (stopP 12 k1) ∧ w.grownBy w' (some p))
          have dd : ((d.toNat : Int) == 11) = false := by
            have : d.toNat ≠ 11 := fun e => hd (UInt8.toNat_inj.1 (by rw [e]; rfl))
            simp; omega
          clear hd
          go_enter Tryd.func51, Tryd.ntmps51
          go_wp2_with (first
            | (have tok := HG2; go_at_call 53; go_must ((with_reducible refine (HA1.out _ HG2.out.sc).mono ?_); rintro e w' ⟨rfl, rfl⟩))
            | (go_at_call 53; go_must ((with_reducible refine HAT.out.mono ?_); rintro e w' ⟨rfl, rfl⟩))
            | (go_at_call 93; go_must ((with_reducible refine HG.out.mono ?_); intro e w1 hq; obtain ⟨A, c, rfl, hla, hfar, hs, hg, hty⟩ := hq; have HG1 := Lib.hid (HST.out w1 A c hs hg hty hfar); have c0 := HG1.out.box.cell 0; have c1 := HG1.out.box.cell 1; have c2 := HG1.out.box.cell 2; have c3 := HG1.out.box.cell 3; simp only [List.getElem?_toArray, List.getElem?_cons_zero, List.getElem?_cons_succ] at c0 c1 c2 c3; clear hla hfar hs hg hty))
            | (go_at_call 47; go_must ((with_reducible refine (HCR.out _ _ _ HG1.out.tb.tabs).mono ?_); rintro e w2 ⟨rfl, hb2⟩; have HG2 := Lib.hid (HG1.out.below hb2); clear hb2))
            | (have tok := HG3; go_at_call 101; go_must ((with_reducible refine (unlessF _ _ _).mono ?_); rintro e w' ⟨rfl, rfl⟩))
            | (go_at_call 101; go_must ((with_reducible refine (unlessT _ _ _).mono ?_); rintro e w' ⟨rfl, rfl⟩))
            | (go_at_call 102; go_must ((with_reducible refine (HB.out _ HG2.out.sc).mono ?_); rintro e w3 ⟨rfl, hs, hg⟩; have HG3 := Lib.hid (HG2.out.call hs hg); clear hs hg)))
          exact ⟨rfl, rfl, HG3.out.gr⟩
    · rw [if_neg h0]
      show Calls _ _ _ _ (fun e w' => e = .panicked (stopP z k) ∧ w.grownBy w' (some p))
      have dz : (z == 0) = false := by simpa using h0
      clear h0 HZ
      go_enter Tryd.func51, Tryd.ntmps51
      go_wp2_with (first
        | (go_at_call 53; go_must ((with_reducible refine HAT.out.mono ?_); rintro e w' ⟨rfl, rfl⟩))
        | (go_at_call 93; go_must ((with_reducible refine HG.out.mono ?_); intro e w1 hq; obtain ⟨A, c, rfl, hla, hfar, hs, hg, hty⟩ := hq; have HG1 := Lib.hid (HST.out w1 A c hs hg hty hfar); have c0 := HG1.out.box.cell 0; have c1 := HG1.out.box.cell 1; have c2 := HG1.out.box.cell 2; have c3 := HG1.out.box.cell 3; simp only [List.getElem?_toArray, List.getElem?_cons_zero, List.getElem?_cons_succ] at c0 c1 c2 c3; clear hla hfar hs hg hty))
        | (go_at_call 47; go_must ((with_reducible refine (HCR.out _ _ _ HG1.out.tb.tabs).mono ?_); rintro e w2 ⟨rfl, hb2⟩; have HG2 := Lib.hid (HG1.out.below hb2); clear hb2))
        | (go_at_call 101; go_must ((with_reducible refine (unlessF _ _ _).mono ?_); rintro e w' ⟨rfl, rfl⟩)))
      exact ⟨rfl, rfl, HG2.out.gr⟩
end Go.Proofs.YticgmfeihdankaaDoor

/- segment.GetHead, elems.Get of any bytes. -/
namespace Go.Proofs.YticgmfeihdankaaDoor
open Go.RowKit
set_option linter.unusedVariables false
set_option maxRecDepth 100000

/-- A segment's beginning; an element segment. -/
noncomputable def headR (l : List UInt8) (k : Nat) : Res I := (noughtR l k).bind fun _ k1 => readR l k1
noncomputable def elR (l : List UInt8) (k : Nat) : Res El := (headR l k).bind fun i k1 => (labelsR l k1).bind fun fs k2 => .ok ⟨i, fs⟩ k2
set_option maxHeartbeats 4000000 in
theorem gethead_any {w : World} {p : Nat} {l : List UInt8} {k : Nat} (h : Sc w p l k) (hT : TbP p w) :
    Calls Tryd.prog 74 #[.pointer (some ⟨p, 0, none⟩)] w (GetsR p l (headR l k) w) := by
  have hp := h.lt
  have hN := getNought_any (h.alloc (.cells #[.int .u8 0, .int .u64 0, .int .u64 0, .slice none 0 0] 25))
  have HT0 := Lib.hid (hT.below (below_box w (.cells #[.int .u8 0, .int .u64 0, .int .u64 0, .slice none 0 0] 25)) (Nat.le_of_lt hp))
  have HWM := Lib.hid (Whole.made w 25 #[.int .u8 0, .int .u64 0, .int .u64 0, .slice none 0 0])
  unfold headR
  cases h1 : noughtR l k with
  | err ec ea =>
    rw [h1] at hN
    rw [Res.bind_err]
    show Calls _ _ _ _ (fun e w' => e = .panicked (stopP ec ea) ∧ w.grownBy w' (some p))
    have HN := Lib.hid hN
    clear hN h1 h hT
    go_enter Tryd.func74, Tryd.ntmps74
    go_wp2_with (go_at_call 118; go_must ((with_reducible refine HN.out.mono ?_); rintro e w1 ⟨rfl, hg⟩; have HG1 := Lib.hid hg; clear hg))
    exact ⟨rfl, rfl, gb_trans (gb_alloc (gb_refl w _) _) HG1.out⟩
  | ok u k1 =>
    rw [h1] at hN
    rw [Res.bind_ok]
    have HN := Lib.hid hN
    clear hN h1 h hT
    have hC := fun W (hs : Sc W p l k1) (ht : TbP p W) => cread_any hs ht
    cases h2 : readR l k1 with
    | err ec ea =>
      rw [h2] at hC
      show Calls _ _ _ _ (fun e w' => e = .panicked (stopP ec ea) ∧ w.grownBy w' (some p))
      have HC := Lib.hid (fun W (hs : Sc W p l k1) (ht : TbP p W) => show Calls Tryd.prog 51 #[.pointer (some ⟨p, 0, none⟩)] W (fun e w' => e = .panicked (stopP ec ea) ∧ W.grownBy w' (some p)) from hC W hs ht)
      clear hC h2
      go_enter Tryd.func74, Tryd.ntmps74
      go_wp2_with (first
        | (go_at_call 118; go_must ((with_reducible refine HN.out.mono ?_); rintro e w1 ⟨rfl, hs, hg⟩; have HS1 := Lib.hid hs; have HG1 := Lib.hid hg; clear hs hg))
        | (go_at_call 51; go_must ((with_reducible refine (HC.out _ HS1.out (HT0.out.self HG1.out)).mono ?_); rintro e w2 ⟨rfl, hg⟩; have HG2 := Lib.hid hg; clear hg)))
      exact ⟨rfl, rfl, gb_trans (gb_trans (gb_alloc (gb_refl w _) _) HG1.out) HG2.out⟩
    | ok i k2 =>
      rw [h2] at hC
      have HC := Lib.hid (fun W (hs : Sc W p l k1) (ht : TbP p W) => show Calls Tryd.prog 51 #[.pointer (some ⟨p, 0, none⟩)] W (Gets p l i k2 W) from hC W hs ht)
      clear hC h2
      go_enter Tryd.func74, Tryd.ntmps74
      go_wp2_with (first
        | (go_at_call 118; go_must ((with_reducible refine HN.out.mono ?_); rintro e w1 ⟨rfl, hs, hg⟩; have HS1 := Lib.hid hs; have HG1 := Lib.hid hg; have HW1 := Lib.hid (HWM.out.grown hg (by simp only [ne_eq, Option.some.injEq]; omega)); clear hs hg))
        | (go_at_call 51; go_must ((with_reducible refine (HC.out _ HS1.out (HT0.out.self HG1.out)).mono ?_); intro e w2 hq; obtain ⟨A, c, rfl, hla, hfar, hs, hg, hty⟩ := hq; have HS2 := Lib.hid hs; have HG2 := Lib.hid hg; have HTY := Lib.hid hty; have HF := Lib.hid hfar; have HW2 := Lib.hid (HW1.out.grown hg (by simp only [ne_eq, Option.some.injEq]; omega)); have z0 := HW2.out.cell 0; have z1 := HW2.out.cell 1; have z2 := HW2.out.cell 2; have z3 := HW2.out.cell 3; simp only [List.getElem?_toArray, List.getElem?_cons_zero, List.getElem?_cons_succ] at z0 z1 z2 z3; have f0 := HW2.out.frozen 0; have f1 := HW2.out.frozen 1; have f2 := HW2.out.frozen 2; have f3 := HW2.out.frozen 3; clear hla hfar hs hg hty)))
      obtain ⟨h1, h2⟩ := put4 (u0 := .int .u8 i.op.toNat) (u1 := .int .u64 i.a) (u2 := .int .u64 i.b) (u3 := .slice A i.l.length c) HW2.out
      have q0 := h1.cell 0
      have q1 := h1.cell 1
      have q2 := h1.cell 2
      have q3 := h1.cell 3
      simp only [List.getElem?_toArray, List.getElem?_cons_zero, List.getElem?_cons_succ] at q0 q1 q2 q3
      have hz1 := HG1.out.size
      rw [size_box] at hz1
      have hty := HTY.out.keep h2 (HTY.out.apart HW2.out (by decide))
      refine bodyPost_ret (v := insV i A c) (by simp [results, Tryd.results74, go_sem, q0, q1, q2, q3]) rfl ?_
      exact ⟨A, c, rfl, hty.lies, fun a ha => by have := HF.out a ha; omega, HS2.out.grown h2 (by simp only [ne_eq, Option.some.injEq]; omega) (fun g e => by injection e with e; omega), gb_before (gb_trans (gb_trans (gb_alloc (gb_refl w _) _) HG1.out) HG2.out) h2 (fun g e => .inr (by injection e with e; omega)), hty⟩
/-- What Get leaves behind. -/
def GotEl (p : Nat) (l : List UInt8) (r : Res El) (w : World) (e : Ending) (w' : World) : Prop := match r with
  | .ok x k => ∃ A c F f, e = .returned (elV x A c F f) ∧ Sc w' p l k ∧ w.grownBy w' (some p) ∧ LabT w' F x.fs ∧ ∀ a, F = some a → w.heap.size ≤ a.block
  | .err c a => e = .panicked (stopP c a) ∧ w.grownBy w' (some p)
/-- Get once the offset is read: the result's block, the offset's box; what the reader at q turns. -/
structure GBE (w : World) (q bt : Nat) (i : I) (A : Option Addr) (c : Nat) (W : World) : Prop where
  res : Whole W w.heap.size 27 elZ
  bx : Whole W bt 25 (insC i A c)
  gr : w.grownBy W (some q)
  hp : q < w.heap.size
  lt : w.heap.size < bt
section
variable {w W W' : World} {q bt : Nat} {i : I} {A : Option Addr} {c : Nat}
theorem GBE.call (h : GBE w q bt i A c W) (hg : W.grownBy W' (some q)) : GBE w q bt i A c W' := by
  have a := h.hp
  have b := h.lt
  exact ⟨h.res.grown hg (by simp only [ne_eq, Option.some.injEq]; omega), h.bx.grown hg (by simp only [ne_eq, Option.some.injEq]; omega), gb_trans h.gr hg, a, b⟩
theorem GBE.start {w w1 : World} (hp : q < w.heap.size) (hg : (w.alloc (.cells elZ 27)).grownBy w1 (some q)) : GBE w q w1.heap.size i A c (w1.alloc (.cells (insC i A c) 25)) := by
  have hz := hg.size
  rw [size_box] at hz
  exact ⟨((Whole.made w _ _).grown hg (by simp only [ne_eq, Option.some.injEq]; omega)).alloc _, Whole.made _ _ _, gb_alloc (gb_trans (gb_alloc (gb_refl w _) _) hg) _, hp, by omega⟩
theorem GBE.fin {x0 x1 x2 x3 x4 : Value} (h : GBE w q bt i A c W) :
    Whole (((((W.setCell ⟨w.heap.size, 0, none⟩ x0).setCell ⟨w.heap.size, 1, none⟩ x1).setCell ⟨w.heap.size, 2, none⟩ x2).setCell ⟨w.heap.size, 3, none⟩ x3).setCell ⟨w.heap.size, 4, none⟩ x4) w.heap.size 27 #[x0, x1, x2, x3, x4] ∧
    W.grownBy (((((W.setCell ⟨w.heap.size, 0, none⟩ x0).setCell ⟨w.heap.size, 1, none⟩ x1).setCell ⟨w.heap.size, 2, none⟩ x2).setCell ⟨w.heap.size, 3, none⟩ x3).setCell ⟨w.heap.size, 4, none⟩ x4) (some w.heap.size) ∧
    w.grownBy (((((W.setCell ⟨w.heap.size, 0, none⟩ x0).setCell ⟨w.heap.size, 1, none⟩ x1).setCell ⟨w.heap.size, 2, none⟩ x2).setCell ⟨w.heap.size, 3, none⟩ x3).setCell ⟨w.heap.size, 4, none⟩ x4) (some q) := by
  obtain ⟨h1, h2⟩ := put5 (u0 := x0) (u1 := x1) (u2 := x2) (u3 := x3) (u4 := x4) h.res
  have := h.hp
  exact ⟨h1, h2, gb_before h.gr h2 (fun g e => .inr (by injection e with e; omega))⟩
end
set_option maxHeartbeats 4000000 in
theorem get_el {w : World} {p : Nat} {l : List UInt8} {k : Nat} (h : Sc w p l k) (hT : TbP p w) :
    Calls Tryd.prog 19 #[.pointer (some ⟨p, 0, none⟩)] w (GotEl p l (elR l k) w) := by
  have hp := h.lt
  have hG := gethead_any (h.alloc (.cells elZ 27)) (hT.below (below_box w (.cells elZ 27)) (Nat.le_of_lt hp))
  unfold elR
  cases h1 : headR l k with
  | err ec ea =>
    rw [h1] at hG
    rw [Res.bind_err]
    show Calls _ _ _ _ (fun e w' => e = .panicked (stopP ec ea) ∧ w.grownBy w' (some p))
    have HG := Lib.hid hG
    clear hG h1 h hT
    go_enter Tryd.func19, Tryd.ntmps19
    go_wp2_with (go_at_call 74; go_must ((with_reducible refine HG.out.mono ?_); rintro e w1 ⟨rfl, hg⟩; have HG1 := Lib.hid hg; clear hg))
    exact ⟨rfl, rfl, gb_trans (gb_alloc (gb_refl w _) _) HG1.out⟩
  | ok i k1 =>
    rw [h1] at hG
    rw [Res.bind_ok]
    have HG := Lib.hid (show Calls Tryd.prog 74 #[.pointer (some ⟨p, 0, none⟩)] (w.alloc (.cells elZ 27)) (Gets p l i k1 (w.alloc (.cells elZ 27))) from hG)
    clear hG h1 h hT
    have hC := fun W (hs : Sc W p l k1) => getLabels_any hs
    cases h2 : labelsR l k1 with
    | err ec ea =>
      rw [h2] at hC
      rw [Res.bind_err]
      show Calls _ _ _ _ (fun e w' => e = .panicked (stopP ec ea) ∧ w.grownBy w' (some p))
      have HC := Lib.hid (fun W (hs : Sc W p l k1) => show Calls Tryd.prog 75 #[.pointer (some ⟨p, 0, none⟩)] W (fun e w' => e = .panicked (stopP ec ea) ∧ W.grownBy w' (some p)) from hC W hs)
      clear hC h2
      go_enter Tryd.func19, Tryd.ntmps19
      go_wp2_with (go_at_call 74; go_must ((with_reducible refine HG.out.mono ?_); intro e w1 hq; obtain ⟨A, c, rfl, _, _, hs, hg, _⟩ := hq; have HGB := Lib.hid (GBE.start (i := i) (A := A) (c := c) hp hg); have HS1 := Lib.hid (hs.alloc (.cells (insC i A c) 25)); clear hs hg))
      generalize w1.alloc (.cells (insC i A c) 25) = W at *
      generalize w1.heap.size = bt at *
      have x0 := HGB.out.bx.cell 0
      have x1 := HGB.out.bx.cell 1
      have x2 := HGB.out.bx.cell 2
      have x3 := HGB.out.bx.cell 3
      simp only [List.getElem?_toArray, List.getElem?_cons_zero, List.getElem?_cons_succ] at x0 x1 x2 x3
      have hsd : Sc W.drew p l k1 := HS1.out
      have HC2 := Lib.hid (HC.out _ hsd)
      refine wp_region_held_drew (S := fun W' => W'.cell? ⟨bt, 0, none⟩ = some (.int .u8 i.op.toNat) ∧ W'.cell? ⟨bt, 1, none⟩ = some (.int .u64 i.a) ∧ W'.cell? ⟨bt, 2, none⟩ = some (.int .u64 i.b) ∧ W'.cell? ⟨bt, 3, none⟩ = some (.slice A i.l.length c)) (by kernel_rfl) ⟨x0, x1, x2, x3⟩ (fun hHeld => ?_)
      (refine wpAnyH_take (i := 0) (oi := { dst := some 6, op := Op.load 25 (Operand.tmp 3), type := 25, pos := "elems.go:32", after := #[], guard := none }) (v := ?_) rfl (by kernel_rfl) (by kernel_rfl) (by kernel_rfl) (fun _ _ _ h => h) ?_ (by assumption) ?_; rotate_left; focus (refine .inl ⟨by kernel_rfl, ?_⟩; intro w hSw; (try dsimp only at hSw); go_simp; (try with_reducible rfl)); (try simp only [Act.put, List.setIfInBounds_toArray, List.set_cons_zero, List.set_cons_succ]))
      (refine wpAnyH_take (i := 1) (oi := { dst := some 7, op := Op.move (Operand.tmp 0), type := 35, pos := "elems.go:32", after := #[], guard := none }) (v := ?_) rfl (by kernel_rfl) (by kernel_rfl) (by kernel_rfl) (fun _ _ _ h => h) ?_ (by assumption) ?_; rotate_left; focus (refine .inl ⟨by kernel_rfl, ?_⟩; intro w hSw; (try dsimp only at hSw); go_simp; (try with_reducible rfl)); (try simp only [Act.put, List.setIfInBounds_toArray, List.set_cons_zero, List.set_cons_succ]))
      refine wpAnyH_ready (rs := [2]) (by kernel_rfl) (by simp) ?_
      refine AllReadyH.cons (o := { dst := some 8, op := Op.call { callee := Callee.value (Operand.func 75), args := #[Operand.tmp 7], argTypes := #[35] }, type := 23, pos := "elems.go:32", after := #[{ on := 1, ground := Ground.data }], guard := none }) rfl (fun K hK => ?_) AllReadyH.nil
      go_simp
      (go_at_call 75; (with_reducible refine HC2.out.mono ?_); rintro e w2 ⟨rfl, hg⟩; exact ⟨rfl, rfl, gb_trans (gb_drew HGB.out.gr) hg⟩)
    | ok fs k2 =>
      rw [h2] at hC
      rw [Res.bind_ok]
      have HC := Lib.hid (fun W (hs : Sc W p l k1) => show Calls Tryd.prog 75 #[.pointer (some ⟨p, 0, none⟩)] W (Labs p l fs k2 W) from hC W hs)
      clear hC h2
      go_enter Tryd.func19, Tryd.ntmps19
      go_wp2_with (go_at_call 74; go_must ((with_reducible refine HG.out.mono ?_); intro e w1 hq; obtain ⟨A, c, rfl, _, _, hs, hg, _⟩ := hq; have HGB := Lib.hid (GBE.start (i := i) (A := A) (c := c) hp hg); have HS1 := Lib.hid (hs.alloc (.cells (insC i A c) 25)); clear hs hg))
      generalize w1.alloc (.cells (insC i A c) 25) = W at *
      generalize w1.heap.size = bt at *
      have hsd : Sc W.drew p l k1 := HS1.out
      have HC2 := Lib.hid (HC.out _ hsd)
      have HGD := Lib.hid (HGB.out.call (gb_drew (gb_refl W _)))
      have hzw : w.heap.size ≤ W.drew.heap.size := HGD.out.gr.size
      have x0 := HGB.out.bx.cell 0
      have x1 := HGB.out.bx.cell 1
      have x2 := HGB.out.bx.cell 2
      have x3 := HGB.out.bx.cell 3
      simp only [List.getElem?_toArray, List.getElem?_cons_zero, List.getElem?_cons_succ] at x0 x1 x2 x3
      clear HC HS1 HGB HG hsd
      go_region_with (go_at_call 75; (with_reducible refine HC2.out.mono ?_); intro e w2 hq; obtain ⟨F, f, rfl, hfar, hs, hg, hty⟩ := hq; have HS2 := Lib.hid hs; have HF := Lib.hid hfar; have HTY := Lib.hid hty; have HG2 := Lib.hid (HGD.out.call hg); have y0 := HG2.out.bx.cell 0; have y1 := HG2.out.bx.cell 1; have y2 := HG2.out.bx.cell 2; have y3 := HG2.out.bx.cell 3; simp only [List.getElem?_toArray, List.getElem?_cons_zero, List.getElem?_cons_succ] at y0 y1 y2 y3; have f0 := HG2.out.res.frozen 0; have f1 := HG2.out.res.frozen 1; have f2 := HG2.out.res.frozen 2; have f3 := HG2.out.res.frozen 3; have f4 := HG2.out.res.frozen 4; have z0 := HG2.out.res.cell 0; have z1 := HG2.out.res.cell 1; have z2 := HG2.out.res.cell 2; have z3 := HG2.out.res.cell 3; have z4 := HG2.out.res.cell 4; simp only [List.getElem?_toArray, List.getElem?_cons_zero, List.getElem?_cons_succ] at z0 z1 z2 z3 z4; clear hs hg hty hfar)
      all_goals
        go_wp2
        obtain ⟨h1, h2, h3⟩ := GBE.fin (x0 := .int .u8 i.op.toNat) (x1 := .int .u64 i.a) (x2 := .int .u64 i.b) (x3 := .slice A i.l.length c) (x4 := .slice F fs.length f) HG2.out
        obtain ⟨q0, q1, q2, q3, q4⟩ := Whole.el (x := ⟨i, fs⟩) h1
        have hs3 := HS2.out.grown h2 (by have := HG2.out.hp; simp only [ne_eq, Option.some.injEq]; omega) (fun g e => by have := HG2.out.hp; injection e with e; omega)
        exact bodyPost_ret (v := elV ⟨i, fs⟩ A c F f) (by simp [results, Tryd.results19, go_sem, q0, q1, q2, q3, q4]) rfl ⟨A, c, F, f, rfl, hs3, h3, HTY.out.keep h2 (HTY.out.apart HG2.out.res (by decide)), fun a ha => Nat.le_trans hzw (HF.out a ha)⟩
end Go.Proofs.YticgmfeihdankaaDoor

/- The reference's Count and creelref13.Get, whatever the reader's state. (By gen/genElRef.py.) -/
namespace Go.Proofs.YticgmfeihdankaaDoor
open Go.RowKit
set_option linter.unusedVariables false
set_option maxRecDepth 100000

theorem count_st {w : World} {q : Nat} {l : List UInt8} {s : RSt} (h : Rs w q l s) :
    Calls Tryd.prog 79 #[.pointer (some ⟨q, 0, none⟩)] w fun e w' => e = .returned (.int .i64 (vZ (s.bind (countR l)))) ∧ Rs w' q l (stOf (s.bind (countR l))) ∧ w.grownBy w' (some q) := by
  cases s with
  | «at» k => exact count_ref h
  | bad c a =>
    show Calls _ _ _ _ fun e w' => e = .returned (.int .i64 0) ∧ Rs w' q l (.bad c a) ∧ w.grownBy w' (some q)
    have HN := Lib.hid (show Calls Tryd.prog 123 #[.pointer (some ⟨q, 0, none⟩)] w fun e w' => e = .returned (.int .u32 0) ∧ Rs w' q l (.bad c a) ∧ w.grownBy w' (some q) from index_ref h)
    obtain ⟨jy, y1⟩ := at_bad h
    have hne : (c != 0) = true := by simpa using h.nz
    clear h
    go_enter Tryd.func79, Tryd.ntmps79
    go_wp2_with (go_at_call 123; go_must ((with_reducible refine HN.out.mono ?_); rintro e w1 ⟨rfl, hs, hg⟩; have HS := Lib.hid hs; have HG := Lib.hid hg; have x2 := why_bad hs; clear hs hg y1))
    go_ret
    exact ⟨rfl, HS.out, HG.out⟩
/-- The state behind a byte that can only be 0, which the reference reads by hand. -/
theorem pre_ref {w : World} {q : Nat} {l : List UInt8} {s : RSt} (h : Rs w q l s) :
    (∃ j : Int, w.cell? ⟨q, 1, none⟩ = some (.int .i64 j)) ∧
    ((Calls Tryd.prog 105 #[.pointer (some ⟨q, 0, none⟩)] w fun e w' => e = .returned (.int .i64 0) ∧ Rs w' q l (stOf (s.bind (noughtR l))) ∧ w.grownBy w' (some q)) ∨
     (∃ (k k' : Nat) (c : UInt8), s = .at k ∧ ((c.toNat : Int) != 0) = true ∧ stOf (s.bind (noughtR l)) = .bad 10 k ∧ w.cell? ⟨q, 1, none⟩ = some (.int .i64 k) ∧
       Calls Tryd.prog 105 #[.pointer (some ⟨q, 0, none⟩)] w fun e w' => e = .returned (.int .i64 c.toNat) ∧ Rs w' q l (.at k') ∧ w.grownBy w' (some q))) := by
  have hB := byte_ref h
  cases s with
  | bad c a => exact ⟨at_bad h, .inl hB⟩
  | «at» k =>
    refine ⟨⟨_, at_at h⟩, ?_⟩
    have hB2 : Calls Tryd.prog 105 #[.pointer (some ⟨q, 0, none⟩)] w fun e w' => e = .returned (.int .i64 (v8 (byteR l k))) ∧ Rs w' q l (stOf (byteR l k)) ∧ w.grownBy w' (some q) := hB
    have hn : (RSt.at k).bind (noughtR l) = noughtR l k := rfl
    rw [hn]
    unfold noughtR
    cases hr : byteR l k with
    | err c a =>
      rw [hr] at hB2
      exact .inl hB2
    | ok c k' =>
      rw [hr] at hB2
      rw [Res.bind_ok]
      by_cases hc : c = 0
      · subst hc
        rw [if_pos rfl]
        exact .inl hB2
      · rw [if_neg hc]
        refine .inr ⟨k, k', c, rfl, ?_, rfl, at_at h, hB2⟩
        have : c.toNat ≠ 0 := fun e => hc (UInt8.toNat_inj.1 (by rw [e]; rfl))
        simp; omega
/-- How far the reference's Get has come: its result's block, the segment's box, the reader; the functions that are read. -/
structure RLe (w : World) (q : Nat) (l : List UInt8) (bt : Nat) (i : I) (A : Option Addr) (c : Nat) (s : RSt) (vb v : Value) (acc : List Int) (W : World) : Prop where
  res : Whole W w.heap.size 27 elZ
  box : Whole W bt 27 #[.int .u8 i.op.toNat, .int .u64 i.a, .int .u64 i.b, .slice A i.l.length c, vb]
  rs : Rs W q l s
  gr : w.grownBy W (some q)
  hq : q < w.heap.size
  h2 : w.heap.size < bt
  row : W.ownsRow (bt + 1) 76 1 v acc.length (cells32 acc)
section
variable {w : World} {q : Nat} {l : List UInt8} {bt : Nat} {i : I} {A : Option Addr} {c : Nat} {s s' : RSt} {W W' : World} {vb v v' : Value} {acc : List Int}
theorem RLe.start {w w1 : World} (hq : q < w.heap.size) (hg : (w.alloc (.cells elZ 27)).grownBy w1 (some q)) (hs : Rs w1 q l s) : RLe w q l w1.heap.size i A c s (.slice none 0 0) (.slice none 0 0) [] (w1.alloc (.cells #[.int .u8 i.op.toNat, .int .u64 i.a, .int .u64 i.b, .slice A i.l.length c, .slice none 0 0] 27)) := by
  have hz := hg.size
  rw [size_box] at hz
  exact ⟨((Whole.made w _ _).grown hg (by simp only [ne_eq, Option.some.injEq]; omega)).alloc _, Whole.made _ _ _, hs.alloc _, gb_alloc (gb_trans (gb_alloc (gb_refl w _) _) hg) _, hq, by omega, World.ownsRow_nil _ _ _ _⟩
theorem RLe.call (h : RLe w q l bt i A c s vb v acc W) (hs : Rs W' q l s') (hg : W.grownBy W' (some q)) : RLe w q l bt i A c s' vb v acc W' := by
  have a := h.hq
  have b := h.h2
  obtain ⟨A0, cap0, k0, hwh, _⟩ := h.rs
  exact ⟨h.res.grown hg (by simp only [ne_eq, Option.some.injEq]; omega), h.box.grown hg (by simp only [ne_eq, Option.some.injEq]; omega), hs, gb_trans h.gr hg, h.hq, h.h2,
    World.ownsRow.kept h.row hg (.inr (fun e => own_whole h.row hwh (by decide) e.symm))⟩
theorem RLe.app {x : Int} {w' : World} (h : RLe w q l bt i A c s vb v acc W) (hr : w'.ownsRow (bt + 1) 76 1 v' (acc ++ [x]).length (cells32 (acc ++ [x]))) (hg : (W.alloc (.cells #[.int .u32 x] 76)).grownBy w' v.ownBlock) :
    RLe w q l bt i A c s vb v' (acc ++ [x]) w' := by
  have a := h.hq
  have b := h.h2
  have hlo : ∀ g, v.ownBlock = some g → bt + 1 ≤ g := fun g e => (World.ownsRow.lt h.row g e).1
  have hrs := h.rs
  obtain ⟨A0, cap0, k0, hwh, _⟩ := hrs
  exact ⟨(h.res.alloc _).grown hg (own_whole h.row h.res (by decide)), (h.box.alloc _).grown hg (own_whole h.row h.box (by decide)), (h.rs.alloc _).grown hg (own_whole h.row hwh (by decide)) (fun g e => by have := hlo g e; omega),
    gb_before (gb_alloc h.gr _) hg (fun g e => .inr (by have := hlo g e; omega)), h.hq, h.h2, hr⟩
theorem RLe.store (h : RLe w q l bt i A c s vb v acc W) : RLe w q l bt i A c s v v acc (W.setCell ⟨bt, 4, none⟩ v) := by
  have a := h.hq
  have b := h.h2
  have hg : W.grownBy (W.setCell ⟨bt, 4, none⟩ v) (some bt) := gb_put (p := ⟨bt, 4, none⟩) (gb_refl W _) (.inl rfl) v
  exact ⟨h.res.grown hg (by simp only [ne_eq, Option.some.injEq]; omega), h.box.put 4 v, h.rs.grown hg (by simp only [ne_eq, Option.some.injEq]; omega) (fun g e => by injection e with e; omega), gb_before h.gr hg (fun g e => .inr (by injection e with e; omega)), h.hq, h.h2,
    World.ownsRow.kept h.row hg (.inr (fun e => own_whole h.row h.box (by decide) e.symm))⟩
end
/-- What creelref13.Get leaves behind. -/
def RGotEl (q : Nat) (l : List UInt8) (r : Res El) (w : World) (e : Ending) (w' : World) : Prop :=
  ∃ (x : El) (A : Option Addr) (c : Nat) (F : Option Addr) (f : Nat), e = .returned (elV x A c F f) ∧ Rs w' q l (stOf r) ∧ (∀ y k, r = .ok y k → x = y) ∧ w.grownBy w' (some q) ∧ LabT w' F x.fs ∧ ∀ a, F = some a → w.heap.size ≤ a.block
theorem RLe.fin {w : World} {q : Nat} {l : List UInt8} {bt : Nat} {i : I} {A : Option Addr} {c : Nat} {s : RSt} {W : World} {F : Option Addr} {f : Nat} {acc : List Int} (h : RLe w q l bt i A c s (.slice F acc.length f) (.slice F acc.length f) acc W) {T : Res El} (hT : stOf T = s) (hv : ∀ y k, T = .ok y k → (⟨i, acc⟩ : El) = y) (W4 : World) (hW : W4 = ((((W.setCell ⟨w.heap.size, 0, none⟩ (.int .u8 i.op.toNat)).setCell ⟨w.heap.size, 1, none⟩ (.int .u64 i.a)).setCell ⟨w.heap.size, 2, none⟩ (.int .u64 i.b)).setCell ⟨w.heap.size, 3, none⟩ (.slice A i.l.length c)).setCell ⟨w.heap.size, 4, none⟩ (.slice F acc.length f)) :
    FiveE W4 w.heap.size ⟨i, acc⟩ A c F f ∧ RGotEl q l T w (.returned (elV ⟨i, acc⟩ A c F f)) W4 := by
  subst hW
  have a := h.hq
  have b := h.h2
  obtain ⟨h1, h2⟩ := put5 (u0 := .int .u8 i.op.toNat) (u1 := .int .u64 i.a) (u2 := .int .u64 i.b) (u3 := .slice A i.l.length c) (u4 := .slice F acc.length f) h.res
  obtain ⟨A0, c0, e0, hl, hf⟩ := Row32.labT h.row
  injection e0 with e1 e2 e3
  subst e1
  exact ⟨Whole.el (x := ⟨i, acc⟩) h1, ⟨i, acc⟩, A, c, F, f, rfl, by rw [hT]; exact h.rs.grown h2 (by simp only [ne_eq, Option.some.injEq]; omega) (fun g e => by injection e with e; omega), hv, gb_before h.gr h2 (fun g e => .inr (by injection e with e; omega)), hl.keep h2 (hl.apart h.res (by decide)), fun a ha => by have := hf a ha; omega⟩
theorem count_startS {l : List UInt8} {s : RSt} : ∃ (n : Nat) (s0 : RSt), n ≤ 10000 ∧ (vZ (s.bind (countR l)) = n ∧ stOf (s.bind (countR l)) = s0) ∧ Inv32 l n 0 s0 [] (s.bind (labelsR l)) := by
  cases s with
  | «at» k => exact count_start
  | bad c a => exact ⟨0, .bad c a, by omega, ⟨rfl, rfl⟩, rfl⟩
theorem el_fin {l : List UInt8} {X : Res I} {i : I} (hi : ∀ y k, X = .ok y k → i = y) : (X.bind fun i k1 => (labelsR l k1).bind fun fs k2 => .ok (⟨i, fs⟩ : El) k2) = ((stOf X).bind (labelsR l)).bind fun fs k2 => .ok (⟨i, fs⟩ : El) k2 := by
  cases X with
  | err c a => rfl
  | ok y k =>
    obtain rfl := hi y k rfl
    rfl
set_option maxHeartbeats 8000000 in
theorem rget_el {w : World} {q : Nat} {l : List UInt8} {s : RSt} (h : Rs w q l s) :
    Calls Tryd.prog 80 #[.pointer (some ⟨q, 0, none⟩)] w (RGotEl q l (s.bind (elR l)) w) := by
  have hq := h.lt
  obtain ⟨⟨j0, y1⟩, hpre⟩ := pre_ref (h.alloc (.cells elZ 27))
  obtain ⟨s1, hs1⟩ : ∃ s1, s1 = stOf (s.bind (noughtR l)) := ⟨_, rfl⟩
  have hX : s.bind (elR l) = (s1.bind (readR l)).bind fun i k1 => (labelsR l k1).bind fun fs k2 => .ok (⟨i, fs⟩ : El) k2 := by
    rw [hs1]
    cases s with
    | bad c a => rfl
    | «at» k =>
      show elR l k = ((stOf (noughtR l k)).bind (readR l)).bind _
      unfold elR headR
      cases noughtR l k <;> rfl
  rw [hX]
  obtain ⟨X, hXe⟩ : ∃ X, X = s1.bind (readR l) := ⟨_, rfl⟩
  have HC := Lib.hid (fun W (g : Rs W q l s1) => show Calls Tryd.prog 52 #[.pointer (some ⟨q, 0, none⟩)] W fun e w' => ∃ (i : I) (A : Option Addr) (c : Nat), e = .returned (insV i A c) ∧ Rs w' q l (stOf X) ∧ (∀ y k, X = .ok y k → i = y) ∧ W.grownBy w' (some q) from by have := refC_v g; rw [← hXe] at this; exact this)
  rw [← hXe]
  obtain ⟨n, s3, hn0, hcount, hinv⟩ := count_startS (l := l) (s := stOf X)
  obtain ⟨R, hR⟩ : ∃ R, R = (stOf X).bind (labelsR l) := ⟨_, rfl⟩
  rw [← hR] at hinv
  obtain ⟨T, hT⟩ : ∃ T, T = X.bind fun i k1 => (labelsR l k1).bind fun fs k2 => .ok (⟨i, fs⟩ : El) k2 := ⟨_, rfl⟩
  have HT := Lib.hid (fun (i : I) (hi : ∀ y k, X = .ok y k → i = y) => show T = R.bind fun fs k2 => .ok (⟨i, fs⟩ : El) k2 by rw [hT, hR]; exact el_fin hi)
  rw [← hT]
  have HX0 := Lib.hid (fun W (h : Rs W q l (stOf X)) => show Calls Tryd.prog 79 #[.pointer (some ⟨q, 0, none⟩)] W fun e w' => e = .returned (.int .i64 n) ∧ Rs w' q l s3 ∧ W.grownBy w' (some q) from by have := count_st h; rw [hcount.1, hcount.2] at this; exact this)
  have HINV := Lib.hid hinv
  rw [← hs1] at hpre
  clear hcount hinv hR hT hX hXe
  rcases hpre with hB | ⟨k, k', c0, rfl, dc, hs1b, y1b, hB⟩
  · have HB := Lib.hid hB
    have hq0 := hq
    clear h hB hs1
    go_enter Tryd.func80, Tryd.ntmps80
    go_wp2_with (first
      | (go_at_call 105; go_must ((with_reducible refine HB.out.mono ?_); rintro e w1 ⟨rfl, hs, hg⟩; have HS1 := Lib.hid hs; have HG1 := Lib.hid hg; clear hs hg y1))
      | (go_at_call 52; go_must ((with_reducible refine (HC.out _ HS1.out).mono ?_); intro e w3 hq; obtain ⟨i, A, c, rfl, hs, hv, hg⟩ := hq; have HV := Lib.hid hv; have HG3 := Lib.hid (RLe.start (i := i) (A := A) (c := c) hq0 (gb_trans HG1.out hg) hs); clear hs hv hg))
      | (go_at_call 79; go_must ((with_reducible refine (HX0.out _ HG3.out.rs).mono ?_); rintro e w4 ⟨rfl, hs, hg⟩; have HG4 := Lib.hid (HG3.out.call hs hg); clear hs hg)))
    generalize w3.heap.size = bt at *
    go_loopw [6] (fun ix wr => ∃ (j : Nat) (s : RSt) (v : Value) (acc : List Int), j ≤ n ∧ ix = .int .i64 j ∧ RLe w q l bt i A c s v v acc wr ∧ Inv32 l n j s acc R) (fun ix _ => n - (intOf ix).toNat)
    case atStart => exact ⟨0, s3, _, [], Nat.zero_le _, rfl, HG4.out, HINV.out⟩
    case round =>
      obtain ⟨j, s, v, acc, hj, rfl, hrl, hiv⟩ := hrel
      have HR := Lib.hid hrl
      have b0 := hrl.box.cell 0
      have b1 := hrl.box.cell 1
      have b2 := hrl.box.cell 2
      have b3 := hrl.box.cell 3
      have b4 := hrl.box.cell 4
      have f4 := hrl.box.frozen 4
      have r0 := hrl.res.cell 0
      have r1 := hrl.res.cell 1
      have r2 := hrl.res.cell 2
      have r3 := hrl.res.cell 3
      have r4 := hrl.res.cell 4
      have z0 := hrl.res.frozen 0
      have z1 := hrl.res.frozen 1
      have z2 := hrl.res.frozen 2
      have z3 := hrl.res.frozen 3
      have z4 := hrl.res.frozen 4
      simp only [List.getElem?_toArray, List.getElem?_cons_zero, List.getElem?_cons_succ] at b0 b1 b2 b3 b4 r0 r1 r2 r3 r4
      have hh2 := hrl.h2
      have nn1 : ¬ bt = w.heap.size := by omega
      have nn2 : ¬ w.heap.size = bt := by omega
      cases s with
      | bad ec ea =>
        have hRe : R = .err ec ea := hiv
        have HTE := Lib.hid (show T = .err ec ea by rw [HT.out i HV.out, hRe]; rfl)
        have x2 := why_bad hrl.rs
        have hnz := hrl.rs.nz
        have dw : (ec == 0) = false := by simpa using hnz
        clear hnz hRe
        by_cases hlt : j < n
        all_goals
          obtain ⟨F, f, hvv, _, _⟩ := Row32.labT hrl.row
          subst hvv
          clear hrl hiv
          go_wp2_with fail
          obtain ⟨⟨q0, q1, q2, q3, q4⟩, hf⟩ := RLe.fin HR.out (T := T) (by rw [HTE.out]; rfl) (by rw [HTE.out]; exact (fun y k e => by cases e)) _ rfl
          exact bodyPost_ret (v := elV ⟨i, acc⟩ A c F f) (by simp [results, Tryd.results80, go_sem, q0, q1, q2, q3, q4]) rfl hf
      | «at» p =>
        have x2 := why_at hrl.rs
        obtain ⟨hal, hik⟩ := hiv
        by_cases hlt : j < n
        · rw [idxK_more hlt] at hik
          obtain ⟨x, s2, hx0, hx1, hix, hinv2⟩ := index_step hik hal hlt
          have HX := Lib.hid (fun W (h : Rs W q l (.at p)) => show Calls Tryd.prog 123 #[.pointer (some ⟨q, 0, none⟩)] W fun e w' => e = .returned (.int .u32 x) ∧ Rs w' q l s2 ∧ W.grownBy w' (some q) from by have := index_ref h; rw [show (RSt.at p).bind (indexR l) = indexR l p from rfl, hix.1, hix.2] at this; exact this)
          obtain ⟨acc2, hacc2⟩ : ∃ acc2, acc2 = acc ++ [x] := ⟨_, rfl⟩
          rw [← hacc2] at hinv2
          have HA2 := Lib.hid hacc2
          have HINV2 := Lib.hid hinv2
          have hal2 : acc.length ≤ 10000 := by omega
          clear hrl hik hix hinv2 hacc2
          go_wp2_with fail
          go_region_law (first
            | (refine step32 (by rfl) _ _ (by rfl) (bt + 1) _ acc (by rfl) (HK1.out.row.alloc _) w5.heap.size x (by rfl) (Whole.made w5 _ _) hal2 (Nat.le_trans HK1.out.box.lt (below_box w5 _).size) ?_; intro v2 w6 hr6 hg6; have HK2 := Lib.hid (show RLe w q l bt i A c _ v v2 acc2 w6 from by rw [HA2.out]; exact HK1.out.app hr6 hg6); obtain ⟨A9, cap9, hv9, _⟩ := lies_own HK2.out.row; subst hv9; have f3b := HK2.out.box.frozen 4; have k3b : w6.cell? ⟨bt, 4, none⟩ = some v := HK2.out.box.cell 4; clear hr6 hg6)
            | (go_simp; go_at_call 123; (with_reducible refine (HX.out wr.drew (Rs.drew HR.out.rs)).mono ?_); rintro e w5 ⟨rfl, hs, hg⟩; have HK1 := Lib.hid (HR.out.call hs (gb_of_drew1 hg)); have hk1 : w5.cell? ⟨bt, 4, none⟩ = some v := HK1.out.box.cell 4; have hl5 := HK1.out.box.lt; have n5 : ¬ bt = w5.heap.size := (by omega); clear hs hg))
          all_goals
            go_wp2
            go_roundw
            case rel => exact ⟨j + 1, s2, _, acc2, by omega, by go_num, HK2.out.store, HINV2.out⟩
            case measure => simp [intOf]; omega
        · obtain rfl : j = n := by omega
          rw [Nat.sub_self] at hik
          have hRe : R = .ok acc p := hik.symm
          have HTE := Lib.hid (show T = .ok (⟨i, acc⟩ : El) p by rw [HT.out i HV.out, hRe]; rfl)
          have hiv := hal
          clear hik hRe hal
          obtain ⟨F, f, hvv, _, _⟩ := Row32.labT hrl.row
          subst hvv
          clear hrl hiv
          go_wp2_with fail
          obtain ⟨⟨q0, q1, q2, q3, q4⟩, hf⟩ := RLe.fin HR.out (T := T) (by rw [HTE.out]; rfl) (by rw [HTE.out]; exact (fun y k e => by injection e with e1 e2)) _ rfl
          exact bodyPost_ret (v := elV ⟨i, acc⟩ A c F f) (by simp [results, Tryd.results80, go_sem, q0, q1, q2, q3, q4]) rfl hf
  · clear hs1
    subst hs1b
    have HB := Lib.hid hB
    have hq0 := hq
    have HF := Lib.hid (fun W (g : Rs W q l (.at k')) => show Calls Tryd.prog 104 #[.pointer (some ⟨q, 0, none⟩), .int .i64 10, .int .i64 k] W fun e w' => e = .returned (.tuple #[]) ∧ Rs w' q l (.bad 10 k) ∧ W.grownBy w' (some q) from fail_ref g 10 k (by decide))
    clear h hB y1
    go_enter Tryd.func80, Tryd.ntmps80
    go_wp2_with (first
      | (go_at_call 105; go_must ((with_reducible refine HB.out.mono ?_); rintro e w1 ⟨rfl, hs, hg⟩; have HS1 := Lib.hid hs; have HG1 := Lib.hid hg; clear hs hg y1b))
      | (go_at_call 104; go_must ((with_reducible refine (HF.out _ HS1.out).mono ?_); rintro e w2 ⟨rfl, hs, hg⟩; have HS2 := Lib.hid hs; have HG2 := Lib.hid (gb_trans HG1.out hg); clear hs hg))
      | (go_at_call 52; go_must ((with_reducible refine (HC.out _ HS2.out).mono ?_); intro e w3 hq; obtain ⟨i, A, c, rfl, hs, hv, hg⟩ := hq; have HV := Lib.hid hv; have HG3 := Lib.hid (RLe.start (i := i) (A := A) (c := c) hq0 (gb_trans HG2.out hg) hs); clear hs hv hg))
      | (go_at_call 79; go_must ((with_reducible refine (HX0.out _ HG3.out.rs).mono ?_); rintro e w4 ⟨rfl, hs, hg⟩; have HG4 := Lib.hid (HG3.out.call hs hg); clear hs hg)))
    generalize w3.heap.size = bt at *
    go_loopw [6] (fun ix wr => ∃ (j : Nat) (s : RSt) (v : Value) (acc : List Int), j ≤ n ∧ ix = .int .i64 j ∧ RLe w q l bt i A c s v v acc wr ∧ Inv32 l n j s acc R) (fun ix _ => n - (intOf ix).toNat)
    case atStart => exact ⟨0, s3, _, [], Nat.zero_le _, rfl, HG4.out, HINV.out⟩
    case round =>
      obtain ⟨j, s, v, acc, hj, rfl, hrl, hiv⟩ := hrel
      have HR := Lib.hid hrl
      have b0 := hrl.box.cell 0
      have b1 := hrl.box.cell 1
      have b2 := hrl.box.cell 2
      have b3 := hrl.box.cell 3
      have b4 := hrl.box.cell 4
      have f4 := hrl.box.frozen 4
      have r0 := hrl.res.cell 0
      have r1 := hrl.res.cell 1
      have r2 := hrl.res.cell 2
      have r3 := hrl.res.cell 3
      have r4 := hrl.res.cell 4
      have z0 := hrl.res.frozen 0
      have z1 := hrl.res.frozen 1
      have z2 := hrl.res.frozen 2
      have z3 := hrl.res.frozen 3
      have z4 := hrl.res.frozen 4
      simp only [List.getElem?_toArray, List.getElem?_cons_zero, List.getElem?_cons_succ] at b0 b1 b2 b3 b4 r0 r1 r2 r3 r4
      have hh2 := hrl.h2
      have nn1 : ¬ bt = w.heap.size := by omega
      have nn2 : ¬ w.heap.size = bt := by omega
      cases s with
      | bad ec ea =>
        have hRe : R = .err ec ea := hiv
        have HTE := Lib.hid (show T = .err ec ea by rw [HT.out i HV.out, hRe]; rfl)
        have x2 := why_bad hrl.rs
        have hnz := hrl.rs.nz
        have dw : (ec == 0) = false := by simpa using hnz
        clear hnz hRe
        by_cases hlt : j < n
        all_goals
          obtain ⟨F, f, hvv, _, _⟩ := Row32.labT hrl.row
          subst hvv
          clear hrl hiv
          go_wp2_with fail
          obtain ⟨⟨q0, q1, q2, q3, q4⟩, hf⟩ := RLe.fin HR.out (T := T) (by rw [HTE.out]; rfl) (by rw [HTE.out]; exact (fun y k e => by cases e)) _ rfl
          exact bodyPost_ret (v := elV ⟨i, acc⟩ A c F f) (by simp [results, Tryd.results80, go_sem, q0, q1, q2, q3, q4]) rfl hf
      | «at» p =>
        have x2 := why_at hrl.rs
        obtain ⟨hal, hik⟩ := hiv
        by_cases hlt : j < n
        · rw [idxK_more hlt] at hik
          obtain ⟨x, s2, hx0, hx1, hix, hinv2⟩ := index_step hik hal hlt
          have HX := Lib.hid (fun W (h : Rs W q l (.at p)) => show Calls Tryd.prog 123 #[.pointer (some ⟨q, 0, none⟩)] W fun e w' => e = .returned (.int .u32 x) ∧ Rs w' q l s2 ∧ W.grownBy w' (some q) from by have := index_ref h; rw [show (RSt.at p).bind (indexR l) = indexR l p from rfl, hix.1, hix.2] at this; exact this)
          obtain ⟨acc2, hacc2⟩ : ∃ acc2, acc2 = acc ++ [x] := ⟨_, rfl⟩
          rw [← hacc2] at hinv2
          have HA2 := Lib.hid hacc2
          have HINV2 := Lib.hid hinv2
          have hal2 : acc.length ≤ 10000 := by omega
          clear hrl hik hix hinv2 hacc2
          go_wp2_with fail
          go_region_law (first
            | (refine step32 (by rfl) _ _ (by rfl) (bt + 1) _ acc (by rfl) (HK1.out.row.alloc _) w5.heap.size x (by rfl) (Whole.made w5 _ _) hal2 (Nat.le_trans HK1.out.box.lt (below_box w5 _).size) ?_; intro v2 w6 hr6 hg6; have HK2 := Lib.hid (show RLe w q l bt i A c _ v v2 acc2 w6 from by rw [HA2.out]; exact HK1.out.app hr6 hg6); obtain ⟨A9, cap9, hv9, _⟩ := lies_own HK2.out.row; subst hv9; have f3b := HK2.out.box.frozen 4; have k3b : w6.cell? ⟨bt, 4, none⟩ = some v := HK2.out.box.cell 4; clear hr6 hg6)
            | (go_simp; go_at_call 123; (with_reducible refine (HX.out wr.drew (Rs.drew HR.out.rs)).mono ?_); rintro e w5 ⟨rfl, hs, hg⟩; have HK1 := Lib.hid (HR.out.call hs (gb_of_drew1 hg)); have hk1 : w5.cell? ⟨bt, 4, none⟩ = some v := HK1.out.box.cell 4; have hl5 := HK1.out.box.lt; have n5 : ¬ bt = w5.heap.size := (by omega); clear hs hg))
          all_goals
            go_wp2
            go_roundw
            case rel => exact ⟨j + 1, s2, _, acc2, by omega, by go_num, HK2.out.store, HINV2.out⟩
            case measure => simp [intOf]; omega
        · obtain rfl : j = n := by omega
          rw [Nat.sub_self] at hik
          have hRe : R = .ok acc p := hik.symm
          have HTE := Lib.hid (show T = .ok (⟨i, acc⟩ : El) p by rw [HT.out i HV.out, hRe]; rfl)
          have hiv := hal
          clear hik hRe hal
          obtain ⟨F, f, hvv, _, _⟩ := Row32.labT hrl.row
          subst hvv
          clear hrl hiv
          go_wp2_with fail
          obtain ⟨⟨q0, q1, q2, q3, q4⟩, hf⟩ := RLe.fin HR.out (T := T) (by rw [HTE.out]; rfl) (by rw [HTE.out]; exact (fun y k e => by injection e with e1 e2)) _ rfl
          exact bodyPost_ret (v := elV ⟨i, acc⟩ A c F f) (by simp [results, Tryd.results80, go_sem, q0, q1, q2, q3, q4]) rfl hf
end Go.Proofs.YticgmfeihdankaaDoor

/- slices.Equal of labels; instr.Same; the reference's Same. -/
namespace Go.Proofs.YticgmfeihdankaaDoor
open Go.RowKit
set_option linter.unusedVariables false
set_option maxRecDepth 100000

def LiesL (w : World) (A : Option Addr) (l : List Int) : Prop := Lies w w.heap.size A (cells32 l)
theorem LiesL.below {w w' : World} {A : Option Addr} {l : List Int} (h : LiesL w A l) (hb : Below w.heap.size w w') : LiesL w' A l := (Lies.below h hb (Nat.le_refl _)).more hb.size
theorem LiesL.at {w : World} {A : Option Addr} {l : List Int} (h : LiesL w A l) {i : Nat} {d : Int} (hd : l[i]? = some d) : ∃ b off, A = some ⟨b, off, none⟩ ∧ b < w.heap.size ∧ w.cell? ⟨b, off + i, none⟩ = some (.int .u32 d) := by
  obtain ⟨b, off, e, hb, hc⟩ := h i _ (cells32_get hd)
  exact ⟨b, off, e, hb, hc⟩
/-- The first k of two lists are the same. -/
def Eqs (a b : List Int) (k : Nat) : Prop := ∀ j, j < k → a[j]? = b[j]?
theorem Eqs.all {a b : List Int} {n : Nat} (h : Eqs a b n) (ha : a.length = n) (hb : b.length = n) : a = b := by
  apply List.ext_getElem?
  intro j
  rcases Nat.lt_or_ge j n with g | g
  · exact h j g
  · rw [List.getElem?_eq_none (by omega), List.getElem?_eq_none (by omega)]
def BoolPost (p : Bool) (w : World) (e : Ending) (w' : World) : Prop := e = .returned (.bool p) ∧ Below w.heap.size w w'
set_option maxHeartbeats 800000 in
theorem equal_any {w : World} {A B : Option Addr} {c d : Nat} {a b : List Int} (ha : LiesL w A a) (hb : LiesL w B b) (na : a.length ≤ 100000) (nb : b.length ≤ 100000) :
    Calls Tryd.prog 91 #[.slice A a.length c, .slice B b.length d] w fun e w' => e = .returned (.bool (decide (a = b))) ∧ ∃ q, w' = w.drewN q := by
  obtain ⟨n, hn⟩ : ∃ n, n = a.length := ⟨_, rfl⟩
  obtain ⟨m, hm⟩ : ∃ m, m = b.length := ⟨_, rfl⟩
  rw [← hn] at na ⊢
  rw [← hm] at nb ⊢
  by_cases hnm : n = m
  · subst hnm
    have HA := Lib.hid ha
    have HB := Lib.hid hb
    have HN := Lib.hid hn
    have HM := Lib.hid hm
    clear ha hb hn hm
    go_enter Tryd.func91, Tryd.ntmps91
    go_wp2
    go_loopw [13] (fun s wr => ∃ k q : Nat, k ≤ n ∧ s = .int .i64 k ∧ wr = w.drewN q ∧ Eqs a b k) (fun s _ => n - (intOf s).toNat)
    case atStart => exact ⟨0, 0, Nat.zero_le _, rfl, rfl, fun j hj => absurd hj (Nat.not_lt_zero _)⟩
    case round =>
      obtain ⟨k, q, hk, rfl, rfl, heq⟩ := hrel
      by_cases hlt : k < n
      · obtain ⟨x, hx⟩ : ∃ x, a[k]? = some x := ⟨_, List.getElem?_eq_getElem (by rw [← HN.out]; exact hlt)⟩
        obtain ⟨y, hy⟩ : ∃ y, b[k]? = some y := ⟨_, List.getElem?_eq_getElem (by rw [← HM.out]; exact hlt)⟩
        obtain ⟨b1, o1, rfl, _, g1⟩ := HA.out.at hx
        obtain ⟨b2, o2, rfl, _, g2⟩ := HB.out.at hy
        have HE := Lib.hid heq
        have HX := Lib.hid hx
        have HY := Lib.hid hy
        clear heq hx hy
        by_cases hxy : x = y
        · have HXY := Lib.hid hxy
          have hc : (x != y) = false := by simpa using hxy
          clear hxy
          go_wp2_with fail
          go_region
          go_wp2
          go_roundw
          case measure => simp [intOf]; omega
          case rel =>
            refine ⟨k + 1, q + 1, by omega, by go_num, rfl, fun j hj => ?_⟩
            by_cases e : j = k
            · subst e
              rw [HX.out, HY.out, HXY.out]
            · exact HE.out j (by omega)
        · have HXY := Lib.hid hxy
          have hc : (x != y) = true := by simpa using hxy
          clear hxy
          go_wp2_with fail
          go_region
          go_wp2
          go_ret
          refine ⟨ret_bool ?_, q + 1, rfl⟩
          have : ¬ a = b := fun e => HXY.out (by have h1 := HX.out; have h2 := HY.out; rw [e, h2] at h1; injection h1 with h1; exact h1.symm)
          rw [decide_eq_false this]
      · obtain rfl : k = n := by omega
        have hab := heq.all HN.out.symm HM.out.symm
        clear heq
        go_wp2
        go_ret
        exact ⟨ret_bool (by rw [decide_eq_true hab]), q, rfl⟩
  · have hc : ((n : Int) != m) = true := by simp; omega
    have HE := Lib.hid (show decide (a = b) = false from decide_eq_false (fun e => hnm (by rw [hn, hm, e])))
    clear hnm hn hm
    go_enter Tryd.func91, Tryd.ntmps91
    go_wp2
    go_ret
    exact ⟨ret_bool HE.out.symm, 0, rfl⟩

/-- Are two instructions the same? -/
def sameZ (i k : I) : Bool := decide (i.op = k.op) && decide (i.a = k.a) && decide (i.b = k.b) && decide (i.l = k.l)
theorem below_twoI (w : World) (i k : I) (A B : Option Addr) (c d : Nat) : Below w.heap.size w ((w.alloc (.cells (insC i A c) 25)).alloc (.cells (insC k B d) 25)) := (below_box w _).alloc (by simp) _
theorem same_no {i k : I} {w W : World} (h : ¬ (i.op = k.op ∧ i.a = k.a ∧ i.b = k.b ∧ i.l = k.l)) (hb : Below w.heap.size w W) : BoolPost (sameZ i k) w (.returned (.bool false)) W := by
  refine ⟨ret_bool ?_, hb⟩
  unfold sameZ
  by_cases h1 : i.op = k.op
  · by_cases h2 : i.a = k.a
    · by_cases h3 : i.b = k.b
      · have h4 : ¬ i.l = k.l := fun e => h ⟨h1, h2, h3, e⟩
        simp [h4]
      · simp [h3]
    · simp [h2]
  · simp [h1]
theorem op_ne {a b : UInt8} (h : a ≠ b) : ((a.toNat : Int) == b.toNat) = false := by
  simp
  intro e
  exact h (UInt8.toNat_inj.1 (by omega))
theorem op_eq (a : UInt8) : ((a.toNat : Int) == a.toNat) = true := by simp
set_option maxHeartbeats 1000000 in
theorem same_any {w : World} {A B : Option Addr} {c d : Nat} {i k : I} (ha : LiesL w A i.l) (hb : LiesL w B k.l) (na : i.l.length ≤ 100000) (nb : k.l.length ≤ 100000) :
    Calls Tryd.prog 34 #[insV i A c, insV k B d] w (BoolPost (sameZ i k) w) := by
  have HB2 := Lib.hid (below_twoI w i k A B c d)
  have HEQ := Lib.hid (equal_any (c := c) (d := d) (ha.below HB2.out) (hb.below HB2.out) na nb)
  clear ha hb
  by_cases h1 : i.op = k.op
  · have d1 : ((i.op.toNat : Int) == k.op.toNat) = true := by rw [h1]; exact op_eq _
    by_cases h2 : i.a = k.a
    · have d2 : (i.a == k.a) = true := by simpa using h2
      by_cases h3 : i.b = k.b
      · have d3 : (i.b == k.b) = true := by simpa using h3
        have HE := Lib.hid (show sameZ i k = decide (i.l = k.l) by unfold sameZ; simp [h1, h2, h3])
        clear h1 h2 h3
        go_enter Tryd.func34, Tryd.ntmps34
        go_wp2_with (go_at_call 91; go_must ((with_reducible refine HEQ.out.mono ?_); rintro e w' ⟨rfl, q, rfl⟩))
        go_ret
        exact ⟨ret_bool HE.out.symm, below_drewN HB2.out _⟩
      · have d3 : (i.b == k.b) = false := by simpa using h3
        have HNO := Lib.hid (fun W hb => same_no (i := i) (k := k) (w := w) (W := W) (fun h => h3 h.2.2.1) hb)
        clear h1 h2 h3
        go_enter Tryd.func34, Tryd.ntmps34
        go_wp2
        go_ret
        exact HNO.out _ HB2.out
    · have d2 : (i.a == k.a) = false := by simpa using h2
      have HNO := Lib.hid (fun W hb => same_no (i := i) (k := k) (w := w) (W := W) (fun h => h2 h.2.1) hb)
      clear h1 h2
      go_enter Tryd.func34, Tryd.ntmps34
      go_wp2
      go_ret
      exact HNO.out _ HB2.out
  · have d1 := op_ne h1
    have HNO := Lib.hid (fun W hb => same_no (i := i) (k := k) (w := w) (W := W) (fun h => h1 h.1) hb)
    clear h1
    go_enter Tryd.func34, Tryd.ntmps34
    go_wp2
    go_ret
    exact HNO.out _ HB2.out
set_option maxHeartbeats 2000000 in
theorem refSame_any {w : World} {A B : Option Addr} {c d : Nat} {i k : I} (ha : LiesL w A i.l) (hb : LiesL w B k.l) (na : i.l.length ≤ 100000) (nb : k.l.length ≤ 100000) :
    Calls Tryd.prog 35 #[insV i A c, insV k B d] w (BoolPost (sameZ i k) w) := by
  have HB2 := Lib.hid (below_twoI w i k A B c d)
  have HA := Lib.hid (ha.below HB2.out)
  have HB := Lib.hid (hb.below HB2.out)
  clear ha hb
  by_cases h1 : i.op = k.op
  · have d1 : ((i.op.toNat : Int) != k.op.toNat) = false := by rw [h1]; simp
    by_cases h2 : i.a = k.a
    · have d2 : (i.a != k.a) = false := by simpa using h2
      by_cases h3 : i.b = k.b
      · have d3 : (i.b != k.b) = false := by simpa using h3
        have HE := Lib.hid (show sameZ i k = decide (i.l = k.l) by unfold sameZ; simp [h1, h2, h3])
        by_cases h4 : i.l.length = k.l.length
        · have d4 : ((i.l.length : Int) != k.l.length) = false := by rw [h4]; simp
          have HL := Lib.hid h4
          clear h1 h2 h3 h4
          go_enter Tryd.func35, Tryd.ntmps35
          go_wp2
          generalize hW : ((w.alloc (.cells (insC i A c) 25)).alloc (.cells (insC k B d) 25)) = W at *
          have x3 : W.cell? ⟨w.heap.size, 3, none⟩ = some (.slice A i.l.length c) := by rw [← hW]; exact ((Whole.made w 25 (insC i A c)).alloc _).cell 3
          have y3 : W.cell? ⟨w.heap.size + 1, 3, none⟩ = some (.slice B k.l.length d) := by
            rw [← hW]
            have := Whole.made (w.alloc (.cells (insC i A c) 25)) 25 (insC k B d)
            rw [size_box] at this
            exact this.cell 3
          clear hW
          go_loopw [5] (fun s wr => ∃ j q : Nat, j ≤ i.l.length ∧ s = .int .i64 j ∧ wr = W.drewN q ∧ Eqs i.l k.l j) (fun s _ => i.l.length - (intOf s).toNat)
          case atStart => exact ⟨0, 0, Nat.zero_le _, rfl, rfl, fun j hj => absurd hj (Nat.not_lt_zero _)⟩
          case round =>
            obtain ⟨j, q, hj, rfl, rfl, heq⟩ := hrel
            by_cases hlt : j < i.l.length
            · obtain ⟨x, hx⟩ : ∃ x, i.l[j]? = some x := ⟨_, List.getElem?_eq_getElem hlt⟩
              obtain ⟨y, hy⟩ : ∃ y, k.l[j]? = some y := ⟨_, List.getElem?_eq_getElem (by rw [← HL.out]; exact hlt)⟩
              obtain ⟨b1, o1, rfl, _, g1⟩ := HA.out.at hx
              obtain ⟨b2, o2, rfl, _, g2⟩ := HB.out.at hy
              have hlt2 : j < k.l.length := by rw [← HL.out]; exact hlt
              have HE2 := Lib.hid heq
              have HX := Lib.hid hx
              have HY := Lib.hid hy
              clear heq hx hy
              by_cases hxy : x = y
              · have HXY := Lib.hid hxy
                have hc : (x != y) = false := by simpa using hxy
                clear hxy
                go_wp2_with fail
                go_region
                go_wp2
                go_roundw
                case measure => simp [intOf]; omega
                case rel =>
                  refine ⟨j + 1, q + 1, by omega, by go_num, rfl, fun u hu => ?_⟩
                  by_cases e : u = j
                  · subst e
                    rw [HX.out, HY.out, HXY.out]
                  · exact HE2.out u (by omega)
              · have HXY := Lib.hid hxy
                have hc : (x != y) = true := by simpa using hxy
                clear hxy
                go_wp2_with fail
                go_region
                go_wp2
                go_ret
                refine ⟨ret_bool ?_, below_drewN HB2.out _⟩
                have : ¬ i.l = k.l := fun e => HXY.out (by have h1 := HX.out; have h2 := HY.out; rw [e, h2] at h1; injection h1 with h1; exact h1.symm)
                rw [HE.out, decide_eq_false this]
            · have hjj : j = i.l.length := by omega
              subst hjj
              have hab : i.l = k.l := heq.all rfl HL.out.symm
              clear heq
              go_wp2
              go_ret
              exact ⟨ret_bool (by rw [HE.out, decide_eq_true hab]), below_drewN HB2.out _⟩
        · have d4 : ((i.l.length : Int) != k.l.length) = true := by simp; omega
          have HNO := Lib.hid (fun W hb => same_no (i := i) (k := k) (w := w) (W := W) (fun h => h4 (by rw [h.2.2.2])) hb)
          clear h1 h2 h3 h4
          go_enter Tryd.func35, Tryd.ntmps35
          go_wp2
          go_ret
          exact HNO.out _ HB2.out
      · have d3 : (i.b != k.b) = true := by simpa using h3
        have HNO := Lib.hid (fun W hb => same_no (i := i) (k := k) (w := w) (W := W) (fun h => h3 h.2.2.1) hb)
        clear h1 h2 h3
        go_enter Tryd.func35, Tryd.ntmps35
        go_wp2
        go_ret
        exact HNO.out _ HB2.out
    · have d2 : (i.a != k.a) = true := by simpa using h2
      have HNO := Lib.hid (fun W hb => same_no (i := i) (k := k) (w := w) (W := W) (fun h => h2 h.2.1) hb)
      clear h1 h2
      go_enter Tryd.func35, Tryd.ntmps35
      go_wp2
      go_ret
      exact HNO.out _ HB2.out
  · have d1 : ((i.op.toNat : Int) != k.op.toNat) = true := by have := op_ne h1; simp at this ⊢; exact this
    have HNO := Lib.hid (fun W hb => same_no (i := i) (k := k) (w := w) (W := W) (fun h => h1 h.1) hb)
    clear h1
    go_enter Tryd.func35, Tryd.ntmps35
    go_wp2
    go_ret
    exact HNO.out _ HB2.out
end Go.Proofs.YticgmfeihdankaaDoor

/- segment.Head, elems.Put. -/
namespace Go.Proofs.YticgmfeihdankaaDoor
open Go.RowKit
set_option linter.unusedVariables false
set_option maxRecDepth 100000

set_option maxHeartbeats 2000000 in
theorem head_ok (i : I) (A : Option Addr) (c : Nat) (w : World) (h : i.Ok) (hT : Tabs w) (h0 : crightZ i = 0) :
    Calls Tryd.prog 69 #[insV i A c] w fun e w' => ∃ v, e = .returned (.tuple #[v, .int .i64 0]) ∧ Row w' w.heap.size v (0 :: cputL i) ∧ Below w.heap.size w w' := by
  have HB := Lib.hid (BoxI.start w i A c)
  have hcl := cputL_len h h0
  have HP := Lib.hid (fun W (hb : Below w.heap.size w W) => show Calls Tryd.prog 45 #[insV i A c] W fun e w' => ∃ v, e = .returned (.tuple #[v, .int .i64 0]) ∧ Row w' W.heap.size v (cputL i) ∧ Below W.heap.size W w' from
    (cput2_any i A c W h (hT.below hb) h0).mono fun e w' ⟨v, h1, h2, h3⟩ => ⟨v, by rw [h0] at h1; exact h1, by rw [if_pos h0] at h2; exact h2, h3⟩)
  obtain ⟨y, hy⟩ : ∃ y, y = cputL i := ⟨_, rfl⟩
  rw [← hy] at hcl HP ⊢
  have HCC := Lib.hid (fun (W : World) (A2 : Option Addr) (k2 : Nat) (hl : Lies W W.heap.size A2 (cells (nums y))) (hA : A2 = none → k2 = 0) => show Calls Tryd.prog 86 #[.slice (some ⟨W.heap.size + 1, 0, none⟩) 2 2] ((W.alloc (.cells #[.int .u8 0] 5)).alloc (.cells #[.slice (some ⟨W.heap.size, 0, none⟩) 1 1, .slice A2 y.length k2] 30)) (BytesL (0 :: y) ((W.alloc (.cells #[.int .u8 0] 5)).alloc (.cells #[.slice (some ⟨W.heap.size, 0, none⟩) 1 1, .slice A2 y.length k2] 30))) from
    cat2 (op := 0) (g1 := W.heap.size) (W := W.alloc (.cells #[.int .u8 0] 5)) (size_box _ _) (Whole.made W 5 #[.int .u8 0]) (lies_box hl _) hA (by omega))
  clear h hT h0 hy hcl
  go_enter Tryd.func69, Tryd.ntmps69
  go_wp2_with (first
    | (go_at_call 45; go_must ((with_reducible refine (HP.out _ HB.out.bel).mono ?_); intro e w2 hq; obtain ⟨v, rfl, hr, hb⟩ := hq; obtain ⟨A2, k2, rfl, hl2, hA2, _⟩ := hr.liesN; have HL2 := Lib.hid hl2; have HA2 := Lib.hid hA2; have HB2 := Lib.hid (HB.out.on hb); clear hl2 hA2 hr hb))
    | (go_at_call 86; go_must ((with_reducible refine (HCC.out w2 A2 k2 HL2.out HA2.out).mono ?_); intro e w4 hq; obtain ⟨v4, rfl, hr4, hb4⟩ := hq; have HR4 := Lib.hid hr4; have HB4 := Lib.hid ((((below_box w2 (.cells #[.int .u8 0] 5)).alloc (below_box w2 _).size (.cells #[.slice (some ⟨w2.heap.size, 0, none⟩) 1 1, .slice A2 y.length k2] 30))).trans (hb4.mono (by simp; omega))); clear hr4 hb4)))
  go_ret2
  have hz := HB2.out.bel.size
  exact ⟨_, rfl, HR4.out.mono (by simp; omega), HB2.out.bel.trans (HB4.out.mono hz)⟩
/-- Its bytes. -/
noncomputable def eputL (x : El) : List UInt8 := (0 :: cputL x.i) ++ labL x.fs
theorem eputL_len {x : El} (h : x.i.Ok) (h0 : crightZ x.i = 0) (hc : ∀ c ∈ x.fs, 0 ≤ c ∧ c ≤ 4294967295) (hn : x.fs.length ≤ 100) : 3 ≤ (eputL x).length ∧ (eputL x).length ≤ 1043 := by
  have h1 := cputL_len h h0
  have h2 := lebL_len (x.fs.length : Int) (by omega)
  have h3 := labsL_len x.fs hc
  unfold eputL labL
  rw [List.length_append, List.length_append, List.length_cons]
  omega
/-- What Put hands back. -/
def PuttedEl (x : El) (w : World) (e : Ending) (w' : World) : Prop := ∃ v, e = .returned (.tuple #[v, .int .i64 (crightZ x.i)]) ∧ Row w' w.heap.size v (if crightZ x.i = 0 then eputL x else []) ∧ Below w.heap.size w w'
set_option maxHeartbeats 8000000 in
theorem put_el (x : El) (A : Option Addr) (c : Nat) (F : Option Addr) (f : Nat) (w : World) (oi : x.i.Ok) (hT : Tabs w) (hl : (x.i.l.length : Int) ≤ 9223372036854775807) (hF : LiesL w F x.fs) (hc : ∀ c ∈ x.fs, 0 ≤ c ∧ c ≤ 4294967295) (hn : x.fs.length ≤ 100) :
    Calls Tryd.prog 14 #[elV x A c F f] w (PuttedEl x w) := by
  have H0 := Lib.hid (bxEl_start w x A c F f)
  have HR := Lib.hid (elright_any x A c F f _ oi (hT.below (below_box w (.cells (elC x A c F f) 27))) hl (by omega))
  unfold PuttedEl
  by_cases h0 : crightZ x.i = 0
  · rw [if_pos h0]
    have hel := eputL_len oi h0 hc hn
    have hsp : eputL x = (0 :: cputL x.i) ++ labL x.fs := rfl
    have HH := Lib.hid (fun W (hb : Below w.heap.size w W) => head_ok x.i A c W oi (hT.below hb) h0)
    have HI := Lib.hid (fun W (hb : Below w.heap.size w W) => labels_any (w := W) (A := F) (c := f) (l := x.fs) (hF.below hb) (by omega) hc)
    rw [h0] at HR ⊢
    rw [hsp] at hel ⊢
    rw [List.length_append] at hel
    obtain ⟨g, hg⟩ : ∃ g, g = 0 :: cputL x.i := ⟨_, rfl⟩
    obtain ⟨y, hy⟩ : ∃ y, y = labL x.fs := ⟨_, rfl⟩
    rw [← hg] at HH hel ⊢
    rw [← hy] at HI hel ⊢
    have hgy : g.length + y.length ≤ 1000000 := by omega
    clear hsp hT h0 oi hl hg hy hF hc hn
    go_enter Tryd.func14, Tryd.ntmps14
    go_wp2_with (first
      | (go_at_call 15; go_must ((with_reducible refine HR.out.mono ?_); rintro e w1 ⟨rfl, hb⟩; have H1 := Lib.hid (bxEl_on H0.out hb); obtain ⟨c0, c1, c2, c3, c4⟩ := H1.out.2; clear hb))
      | (go_at_call 69; go_must ((with_reducible refine (HH.out _ (bxEl_bel H1.out)).mono ?_); intro e w2 hq; obtain ⟨v2, rfl, hr, hb⟩ := hq; clear c0 c1 c2 c3 c4; have HR2 := Lib.hid hr; have H2 := Lib.hid (bxEl_on H1.out hb); have hz2 := hb.size; obtain ⟨c0, c1, c2, c3, c4⟩ := H2.out.2; clear hb hr))
      | (go_at_call 70; go_must ((with_reducible refine (HI.out _ (bxEl_bel H2.out)).mono ?_); intro e w3 hq; obtain ⟨v3, rfl, hr, hb⟩ := hq; obtain ⟨A3, cp3, rfl, hpc⟩ := hr.pc; have H3 := Lib.hid (bxEl_on H2.out hb); have HP3 := Lib.hid hpc; have HR3 := Lib.hid (HR2.out.later hb); have hz3 := hb.size; clear hb hr hpc c0 c1 c2 c3 c4))
      | (at_builtin; (refine row_any rfl _ _ rfl w1.heap.size _ g rfl HR3.out A3 y.length cp3 _ y rfl rfl HP3.out.lies HP3.out.nil hgy (Nat.le_trans hz2 hz3) ?_; intro v4 w4 hr4 hb4; have HR4 := Lib.hid hr4; have HB4 := Lib.hid hb4; clear hr4 hb4)))
    go_ret2
    exact ⟨_, rfl, HR4.out.mono (bxEl_bel H1.out).size, (bxEl_bel H3.out).trans (HB4.out.mono (bxEl_bel H1.out).size)⟩
  · rw [if_neg h0]
    have d0 : (crightZ x.i != 0) = true := zb_of (by simpa using h0)
    obtain ⟨z, hz⟩ : ∃ z, z = crightZ x.i := ⟨_, rfl⟩
    rw [← hz] at HR d0 ⊢
    clear h0 hz hT oi hl hF hc hn
    go_enter Tryd.func14, Tryd.ntmps14
    go_wp2_with (go_at_call 15; go_must ((with_reducible refine HR.out.mono ?_); rintro e w1 ⟨rfl, hb⟩; have H1 := Lib.hid (bxEl_on H0.out hb); clear hb))
    go_ret2
    exact ⟨_, rfl, Row.nil _ _, bxEl_bel H1.out⟩
end Go.Proofs.YticgmfeihdankaaDoor
