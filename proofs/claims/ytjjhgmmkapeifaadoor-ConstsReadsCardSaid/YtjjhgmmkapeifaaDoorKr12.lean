/- A block of one, two, four cells, all written. -/
import Derived.Test.YtjjhgmmkapeifaaDoorKr09
import Derived.Test.YtjjhgmmkapeifaaDoorKr03
import Derived.Test.YtjjhgmmkapeifaaDoorKr11
import Derived.Test.YtjjhgmmkapeifaaDoorKr10
import Derived.Test.YtjjhgmmkapeifaaDoorKr04
import Derived.StillTailTactics
import Derived.Test.YtjjhgmmkapeifaaDoorKr02
namespace Go.Proofs.YtjjhgmmkapeifaaDoor
open Go.RowKit
set_option linter.unusedVariables false

theorem put1 {w : World} {b : Nat} {t : TypeId} {x0 u0 : Value} (hb : Whole w b t #[x0]) : Whole (w.setCell ⟨b, 0, none⟩ u0) b t #[u0] ∧ w.grownBy (w.setCell ⟨b, 0, none⟩ u0) (some b) := ⟨(hb.put 0 u0), (gb_put (p := ⟨b, 0, none⟩) (gb_refl w _) (.inl rfl) u0)⟩
theorem put2 {w : World} {b : Nat} {t : TypeId} {x0 x1 u0 u1 : Value} (hb : Whole w b t #[x0, x1]) : Whole ((w.setCell ⟨b, 0, none⟩ u0).setCell ⟨b, 1, none⟩ u1) b t #[u0, u1] ∧ w.grownBy ((w.setCell ⟨b, 0, none⟩ u0).setCell ⟨b, 1, none⟩ u1) (some b) := ⟨((hb.put 0 u0).put 1 u1), (gb_put (p := ⟨b, 1, none⟩) (gb_put (p := ⟨b, 0, none⟩) (gb_refl w _) (.inl rfl) u0) (.inl rfl) u1)⟩
theorem put4 {w : World} {b : Nat} {t : TypeId} {x0 x1 x2 x3 u0 u1 u2 u3 : Value} (hb : Whole w b t #[x0, x1, x2, x3]) : Whole ((((w.setCell ⟨b, 0, none⟩ u0).setCell ⟨b, 1, none⟩ u1).setCell ⟨b, 2, none⟩ u2).setCell ⟨b, 3, none⟩ u3) b t #[u0, u1, u2, u3] ∧ w.grownBy ((((w.setCell ⟨b, 0, none⟩ u0).setCell ⟨b, 1, none⟩ u1).setCell ⟨b, 2, none⟩ u2).setCell ⟨b, 3, none⟩ u3) (some b) := ⟨((((hb.put 0 u0).put 1 u1).put 2 u2).put 3 u3), (gb_put (p := ⟨b, 3, none⟩) (gb_put (p := ⟨b, 2, none⟩) (gb_put (p := ⟨b, 1, none⟩) (gb_put (p := ⟨b, 0, none⟩) (gb_refl w _) (.inl rfl) u0) (.inl rfl) u1) (.inl rfl) u2) (.inl rfl) u3)⟩
end Go.Proofs.YtjjhgmmkapeifaaDoor

/- consts.Read of any bytes. -/
namespace Go.Proofs.YtjjhgmmkapeifaaDoor
open Go.RowKit
set_option linter.unusedVariables false
set_option maxRecDepth 100000

/-- How far Read has come: its result's block, the instruction's box, the scanner. -/
structure RdS (w : World) (p : Nat) (l : List UInt8) (H2 : Nat) (i : I) (A : Option Addr) (c k : Nat) (W : World) : Prop where
  res : Whole W w.heap.size 25 #[.int .u8 0, .int .u64 0, .int .u64 0, .slice none 0 0]
  box : Whole W H2 25 (insC i A c)
  sc : Sc W p l k
  gr : w.grownBy W (some p)
  hp : p < w.heap.size
  h2 : w.heap.size < H2
  tb : TbP p W
  ty : LabT W A i.l
  far : ∀ a, A = some a → w.heap.size ≤ a.block
section
variable {w : World} {p : Nat} {l : List UInt8} {H2 : Nat} {i : I} {A : Option Addr} {c k k' : Nat} {W W' : World}
theorem Sc.whole {w : World} {p : Nat} {l : List UInt8} {k : Nat} (h : Sc w p l k) : ∃ cs, Whole w p 72 cs := by
  obtain ⟨A, cap, h1, _⟩ := h
  exact ⟨_, h1⟩
theorem RdS.call (h : RdS w p l H2 i A c k W) (hs : Sc W' p l k') (hg : W.grownBy W' (some p)) : RdS w p l H2 i A c k' W' := by
  have a := h.hp
  have b := h.h2
  obtain ⟨cs, hw⟩ := h.sc.whole
  exact ⟨h.res.grown hg (by simp only [ne_eq, Option.some.injEq]; omega), h.box.grown hg (by simp only [ne_eq, Option.some.injEq]; omega), hs, gb_trans h.gr hg, h.hp, h.h2, h.tb.self hg, h.ty.keep hg (h.ty.apart hw (by decide)), h.far⟩
theorem RdS.below (h : RdS w p l H2 i A c k W) (hb : Below W.heap.size W W') : RdS w p l H2 i A c k W' := h.call (h.sc.below hb) (gb_of_below _ hb)
theorem RdS.fin (h : RdS w p l H2 i A c k W) (W4 : World) (hW : W4 = (((W.setCell ⟨w.heap.size, 0, none⟩ (.int .u8 i.op.toNat)).setCell ⟨w.heap.size, 1, none⟩ (.int .u64 i.a)).setCell ⟨w.heap.size, 2, none⟩ (.int .u64 i.b)).setCell ⟨w.heap.size, 3, none⟩ (.slice A i.l.length c)) :
    Whole W4 w.heap.size 25 (insC i A c) ∧ Gets p l i k w (.returned (insV i A c)) W4 := by
  subst hW
  have a := h.hp
  have b := h.h2
  have hg := gb_put (p := ⟨w.heap.size, 3, none⟩) (gb_put (p := ⟨w.heap.size, 2, none⟩) (gb_put (p := ⟨w.heap.size, 1, none⟩) (gb_put (p := ⟨w.heap.size, 0, none⟩) (gb_refl W (some w.heap.size)) (.inl rfl) (.int .u8 i.op.toNat)) (.inl rfl) (.int .u64 i.a)) (.inl rfl) (.int .u64 i.b)) (.inl rfl) (.slice A i.l.length c)
  have hty := h.ty.keep hg (h.ty.apart h.res (by decide))
  exact ⟨(((h.res.put 0 (.int .u8 i.op.toNat)).put 1 (.int .u64 i.a)).put 2 (.int .u64 i.b)).put 3 (.slice A i.l.length c),
    A, c, rfl, hty.lies, h.far, h.sc.grown hg (by simp only [ne_eq, Option.some.injEq]; omega) (fun g e => by injection e with e; omega), gb_before h.gr hg (fun g e => .inr (by injection e with e; omega)), hty⟩
end
set_option maxHeartbeats 4000000 in
theorem cread_any {w : World} {p : Nat} {l : List UInt8} {k : Nat} (hs : Sc w p l k) (hT : TbP p w) :
    Calls Tryd.prog 16 #[.pointer (some ⟨p, 0, none⟩)] w (GetsR p l (readR l k) w) := by
  have hlt := hs.lt
  have HZ : Hid (Sc (w.alloc (.cells #[.int .u8 0, .int .u64 0, .int .u64 0, .slice none 0 0] 25)) p l k ∧ TbP p (w.alloc (.cells #[.int .u8 0, .int .u64 0, .int .u64 0, .slice none 0 0] 25))) := ⟨hs.alloc _, hT.below (below_box w _) (by omega)⟩
  have hG := getA_any HZ.out.1 HZ.out.2
  have HAT := Lib.hid (at_any HZ.out.1)
  unfold readR
  cases hr : getR l k with
  | err ec ea =>
    rw [hr] at hG
    rw [Res.bind_err]
    show Calls _ _ _ _ (fun e w' => e = .panicked (stopP ec ea) ∧ w.grownBy w' (some p))
    have HG := Lib.hid hG
    clear hs hT hG hr HZ
    go_enter Tryd.func16, Tryd.ntmps16
    go_wp2_with (first
      | (go_at_call 18; go_must ((with_reducible refine HAT.out.mono ?_); rintro e w' ⟨rfl, rfl⟩))
      | (go_at_call 32; go_must ((with_reducible refine HG.out.mono ?_); rintro e w1 ⟨rfl, hg⟩; have HGE := Lib.hid hg; clear hg)))
    exact ⟨rfl, rfl, gb_trans (gb_alloc (gb_refl w _) _) HGE.out⟩
  | ok i k1 =>
    rw [hr] at hG
    rw [Res.bind_ok]
    obtain ⟨oi, hl10, hk1⟩ := getR_ok hr
    have HG := Lib.hid (show Calls Tryd.prog 32 #[.pointer (some ⟨p, 0, none⟩)] (w.alloc (.cells #[.int .u8 0, .int .u64 0, .int .u64 0, .slice none 0 0] 25)) (Gets p l i k1 (w.alloc (.cells #[.int .u8 0, .int .u64 0, .int .u64 0, .slice none 0 0] 25))) from hG)
    have HWM := Lib.hid (Whole.made w 25 #[.int .u8 0, .int .u64 0, .int .u64 0, .slice none 0 0])
    have hstart : ∀ w1 (A : Option Addr) (c : Nat), Sc w1 p l k1 → (w.alloc (.cells #[.int .u8 0, .int .u64 0, .int .u64 0, .slice none 0 0] 25)).grownBy w1 (some p) → LabT w1 A i.l → (∀ a, A = some a → (w.alloc (.cells #[.int .u8 0, .int .u64 0, .int .u64 0, .slice none 0 0] 25)).heap.size ≤ a.block) →
        RdS w p l w1.heap.size i A c k1 (w1.alloc (.cells (insC i A c) 25)) := fun w1 A c hs1 hg1 hty hfar => by
      have hz := hg1.size
      rw [size_box] at hz
      exact ⟨(HWM.out.grown hg1 (by simp only [ne_eq, Option.some.injEq]; omega)).alloc _, Whole.made _ _ _, hs1.alloc _, gb_alloc (gb_trans (gb_alloc (gb_refl w _) _) hg1) _, hlt, by omega, (HZ.out.2.self hg1).below (below_box w1 _) (by omega), hty.keep (gb_of_below none (below_box w1 _)) (fun a e => by simp), fun a ha => by have := hfar a ha; rw [size_box] at this; omega⟩
    have HST := Lib.hid hstart
    have HCR := Lib.hid (fun W (A : Option Addr) (c : Nat) (h : Tabs W) => cright_any i A c W oi h (by omega))
    clear hs hT hG hr hstart hl10 hk1 oi
    obtain ⟨z, hz⟩ : ∃ z, z = crightZ i := ⟨_, rfl⟩
    rw [← hz] at HCR ⊢
    clear hz
    by_cases h0 : z = 0
    · subst h0
      rw [if_pos rfl]
      have hB := fun W (h : Sc W p l k1) => byte_any h
      have HA1 := Lib.hid (fun W (h : Sc W p l k1) => at_any h)
      cases hb : byteR l k1 with
      | err ec ea =>
        rw [Res.bind_err]
        show Calls _ _ _ _ (fun e w' => e = .panicked (stopP ec ea) ∧ w.grownBy w' (some p))
        have HB := Lib.hid (fun W (h : Sc W p l k1) => show Calls Tryd.prog 34 #[.pointer (some ⟨p, 0, none⟩)] W (Did encB p l W (.err ec ea)) from by have := hB W h; rw [hb] at this; exact this)
        clear hB hb HZ
        go_enter Tryd.func16, Tryd.ntmps16
        go_wp2_with (first
          | (have tok := HG2; go_at_call 18; go_must ((with_reducible refine (HA1.out _ HG2.out.sc).mono ?_); rintro e w' ⟨rfl, rfl⟩))
          | (go_at_call 18; go_must ((with_reducible refine HAT.out.mono ?_); rintro e w' ⟨rfl, rfl⟩))
          | (go_at_call 32; go_must ((with_reducible refine HG.out.mono ?_); intro e w1 hq; obtain ⟨A, c, rfl, hla, hfar, hs, hg, hty⟩ := hq; have HG1 := Lib.hid (HST.out w1 A c hs hg hty hfar); have c0 := HG1.out.box.cell 0; have c1 := HG1.out.box.cell 1; have c2 := HG1.out.box.cell 2; have c3 := HG1.out.box.cell 3; simp only [List.getElem?_toArray, List.getElem?_cons_zero, List.getElem?_cons_succ] at c0 c1 c2 c3; clear hla hfar hs hg hty))
          | (go_at_call 10; go_must ((with_reducible refine (HCR.out _ _ _ HG1.out.tb.tabs).mono ?_); rintro e w2 ⟨rfl, hb2⟩; have HG2 := Lib.hid (HG1.out.below hb2); clear hb2))
          | (go_at_call 33; go_must ((with_reducible refine (unlessT _ _ _).mono ?_); rintro e w' ⟨rfl, rfl⟩))
          | (go_at_call 34; go_must ((with_reducible refine (HB.out _ HG2.out.sc).mono ?_); rintro e w3 ⟨rfl, hg⟩; have HGE := Lib.hid hg; clear hg)))
        exact ⟨rfl, rfl, gb_trans HG2.out.gr HGE.out⟩
      | ok d k2 =>
        rw [Res.bind_ok]
        have HB := Lib.hid (fun W (h : Sc W p l k1) => show Calls Tryd.prog 34 #[.pointer (some ⟨p, 0, none⟩)] W (Did encB p l W (.ok d k2)) from by have := hB W h; rw [hb] at this; exact this)
        clear hB hb HZ
        by_cases hd : d = 11
        · rw [if_pos hd]
          show Calls _ _ _ _ (Gets p l i k2 w)
          have dd : ((d.toNat : Int) == 11) = true := by rw [hd]; rfl
          clear hd
          go_enter Tryd.func16, Tryd.ntmps16
          go_wp2_with (first
            | (have tok := HG2; go_at_call 18; go_must ((with_reducible refine (HA1.out _ HG2.out.sc).mono ?_); rintro e w' ⟨rfl, rfl⟩))
            | (go_at_call 18; go_must ((with_reducible refine HAT.out.mono ?_); rintro e w' ⟨rfl, rfl⟩))
            | (go_at_call 32; go_must ((with_reducible refine HG.out.mono ?_); intro e w1 hq; obtain ⟨A, c, rfl, hla, hfar, hs, hg, hty⟩ := hq; have HG1 := Lib.hid (HST.out w1 A c hs hg hty hfar); have c0 := HG1.out.box.cell 0; have c1 := HG1.out.box.cell 1; have c2 := HG1.out.box.cell 2; have c3 := HG1.out.box.cell 3; have hh := HG1.out.h2; have n1 : ¬ w1.heap.size = w.heap.size := (by omega); have n2 : ¬ w.heap.size = w1.heap.size := (by omega); simp only [List.getElem?_toArray, List.getElem?_cons_zero, List.getElem?_cons_succ] at c0 c1 c2 c3; clear hla hfar hs hg hty hh))
            | (go_at_call 10; go_must ((with_reducible refine (HCR.out _ _ _ HG1.out.tb.tabs).mono ?_); rintro e w2 ⟨rfl, hb2⟩; have HG2 := Lib.hid (HG1.out.below hb2); clear hb2 c0 c1 c2 c3))
            | (go_at_call 33; go_must ((with_reducible refine (unlessT _ _ _).mono ?_); rintro e w' ⟨rfl, rfl⟩))
            | (go_at_call 34; go_must ((with_reducible refine (HB.out _ HG2.out.sc).mono ?_); rintro e w3 ⟨rfl, hs, hg⟩; have HG3 := Lib.hid (HG2.out.call hs hg); have c0 := HG3.out.box.cell 0; have c1 := HG3.out.box.cell 1; have c2 := HG3.out.box.cell 2; have c3 := HG3.out.box.cell 3; have r0 := HG3.out.res.cell 0; have r1 := HG3.out.res.cell 1; have r2 := HG3.out.res.cell 2; have r3 := HG3.out.res.cell 3; have z0 := HG3.out.res.frozen 0; have z1 := HG3.out.res.frozen 1; have z2 := HG3.out.res.frozen 2; have z3 := HG3.out.res.frozen 3; simp only [List.getElem?_toArray, List.getElem?_cons_zero, List.getElem?_cons_succ] at c0 c1 c2 c3 r0 r1 r2 r3; clear hs hg)))
          obtain ⟨q4, hf⟩ := HG3.out.fin _ rfl
          have q0 := q4.cell 0
          have q1 := q4.cell 1
          have q2 := q4.cell 2
          have q3 := q4.cell 3
          simp only [List.getElem?_toArray, List.getElem?_cons_zero, List.getElem?_cons_succ] at q0 q1 q2 q3
          exact bodyPost_ret (v := insV i A c) (by simp [results, Tryd.results16, go_sem, q0, q1, q2, q3]) rfl hf
        · rw [if_neg hd]
          show Calls _ _ _ _ (fun e w' => e = .panicked (stopP 12 k1) ∧ w.grownBy w' (some p))
          have dd : ((d.toNat : Int) == 11) = false := by
            have : d.toNat ≠ 11 := fun e => hd (UInt8.toNat_inj.1 (by rw [e]; rfl))
            simp; omega
          clear hd
          go_enter Tryd.func16, Tryd.ntmps16
          go_wp2_with (first
            | (have tok := HG2; go_at_call 18; go_must ((with_reducible refine (HA1.out _ HG2.out.sc).mono ?_); rintro e w' ⟨rfl, rfl⟩))
            | (go_at_call 18; go_must ((with_reducible refine HAT.out.mono ?_); rintro e w' ⟨rfl, rfl⟩))
            | (go_at_call 32; go_must ((with_reducible refine HG.out.mono ?_); intro e w1 hq; obtain ⟨A, c, rfl, hla, hfar, hs, hg, hty⟩ := hq; have HG1 := Lib.hid (HST.out w1 A c hs hg hty hfar); have c0 := HG1.out.box.cell 0; have c1 := HG1.out.box.cell 1; have c2 := HG1.out.box.cell 2; have c3 := HG1.out.box.cell 3; simp only [List.getElem?_toArray, List.getElem?_cons_zero, List.getElem?_cons_succ] at c0 c1 c2 c3; clear hla hfar hs hg hty))
            | (go_at_call 10; go_must ((with_reducible refine (HCR.out _ _ _ HG1.out.tb.tabs).mono ?_); rintro e w2 ⟨rfl, hb2⟩; have HG2 := Lib.hid (HG1.out.below hb2); clear hb2))
            | (have tok := HG3; go_at_call 33; go_must ((with_reducible refine (unlessF _ _ _).mono ?_); rintro e w' ⟨rfl, rfl⟩))
            | (go_at_call 33; go_must ((with_reducible refine (unlessT _ _ _).mono ?_); rintro e w' ⟨rfl, rfl⟩))
            | (go_at_call 34; go_must ((with_reducible refine (HB.out _ HG2.out.sc).mono ?_); rintro e w3 ⟨rfl, hs, hg⟩; have HG3 := Lib.hid (HG2.out.call hs hg); clear hs hg)))
          exact ⟨rfl, rfl, HG3.out.gr⟩
    · rw [if_neg h0]
      show Calls _ _ _ _ (fun e w' => e = .panicked (stopP z k) ∧ w.grownBy w' (some p))
      have dz : (z == 0) = false := by simpa using h0
      clear h0 HZ
      go_enter Tryd.func16, Tryd.ntmps16
      go_wp2_with (first
        | (go_at_call 18; go_must ((with_reducible refine HAT.out.mono ?_); rintro e w' ⟨rfl, rfl⟩))
        | (go_at_call 32; go_must ((with_reducible refine HG.out.mono ?_); intro e w1 hq; obtain ⟨A, c, rfl, hla, hfar, hs, hg, hty⟩ := hq; have HG1 := Lib.hid (HST.out w1 A c hs hg hty hfar); have c0 := HG1.out.box.cell 0; have c1 := HG1.out.box.cell 1; have c2 := HG1.out.box.cell 2; have c3 := HG1.out.box.cell 3; simp only [List.getElem?_toArray, List.getElem?_cons_zero, List.getElem?_cons_succ] at c0 c1 c2 c3; clear hla hfar hs hg hty))
        | (go_at_call 10; go_must ((with_reducible refine (HCR.out _ _ _ HG1.out.tb.tabs).mono ?_); rintro e w2 ⟨rfl, hb2⟩; have HG2 := Lib.hid (HG1.out.below hb2); clear hb2))
        | (go_at_call 33; go_must ((with_reducible refine (unlessF _ _ _).mono ?_); rintro e w' ⟨rfl, rfl⟩)))
      exact ⟨rfl, rfl, HG2.out.gr⟩
end Go.Proofs.YtjjhgmmkapeifaaDoor

/- The reference's reader: how far it is; Fail, Byte, Num, Index, Count, nought, whatever it is. -/
namespace Go.Proofs.YtjjhgmmkapeifaaDoor
open Go.RowKit
set_option linter.unusedVariables false
set_option maxRecDepth 100000

/-- A place, or an error and its place. -/
inductive RSt where
  | at (k : Nat)
  | bad (c a : Int)
def RSt.why : RSt → Int
  | .at _ => 0
  | .bad c _ => c
def RSt.off : RSt → Int
  | .at _ => 0
  | .bad _ a => a
def RSt.bind {β : Type} (s : RSt) (f : Nat → Res β) : Res β := match s with
  | .at k => f k
  | .bad c a => .err c a
def RSt.fail (s : RSt) (c a : Int) : RSt := match s with
  | .at _ => .bad c a
  | .bad c2 a2 => .bad c2 a2
def stOf {α : Type} : Res α → RSt
  | .ok _ k => .at k
  | .err c a => .bad c a
def RSt.Right (s : RSt) (l : List UInt8) (k : Int) : Prop := match s with
  | .at j => k = j ∧ j ≤ l.length
  | .bad c _ => c ≠ 0
/-- The reader at block q. -/
def Rs (w : World) (q : Nat) (l : List UInt8) (s : RSt) : Prop :=
  ∃ A cap k, Whole w q 42 #[.slice A l.length cap, .int .i64 k, .int .i64 s.why, .int .i64 s.off] ∧ Lies w q A (cells (nums l)) ∧ l.length ≤ cap ∧ cap ≤ maxLen ∧ s.Right l k
section
variable {w w' : World} {q : Nat} {l : List UInt8} {s : RSt} {k : Nat} {c a : Int}
theorem Rs.grown {row : Option Nat} (h : Rs w q l s) (hg : w.grownBy w' row) (hr : some q ≠ row) (hr2 : ∀ g, row = some g → q ≤ g) : Rs w' q l s := by
  obtain ⟨A, cap, k, h1, h2, h3⟩ := h
  exact ⟨A, cap, k, h1.grown hg hr, h2.grown hg (Nat.le_of_lt h1.lt) hr2, h3⟩
theorem Rs.below (h : Rs w q l s) (hb : Below w.heap.size w w') : Rs w' q l s := h.grown (gb_of_below none hb) (by simp) (fun g e => by cases e)
theorem Rs.alloc (h : Rs w q l s) (o : Obj) : Rs (w.alloc o) q l s := h.below (below_box w o)
theorem Rs.drewN (h : Rs w q l s) (n : Nat) : Rs (w.drewN n) q l s := h
theorem Rs.lt (h : Rs w q l s) : q < w.heap.size := by
  obtain ⟨A, cap, k, h1, _⟩ := h
  exact h1.lt
theorem Rs.good (h : Rs w q l (.at k)) : ∃ A cap, Whole w q 42 #[.slice A l.length cap, .int .i64 k, .int .i64 0, .int .i64 0] ∧ Lies w q A (cells (nums l)) ∧ l.length ≤ cap ∧ cap ≤ maxLen ∧ k ≤ l.length := by
  obtain ⟨A, cap, j, h1, h2, h3, h4, h5, h6⟩ := h
  subst h5
  exact ⟨A, cap, h1, h2, h3, h4, h6⟩
theorem Rs.badly (h : Rs w q l (.bad c a)) : ∃ A cap j, Whole w q 42 #[.slice A l.length cap, .int .i64 j, .int .i64 c, .int .i64 a] ∧ Lies w q A (cells (nums l)) ∧ l.length ≤ cap ∧ cap ≤ maxLen ∧ c ≠ 0 := by
  obtain ⟨A, cap, j, h1, h2, h3, h4, h5⟩ := h
  exact ⟨A, cap, j, h1, h2, h3, h4, h5⟩
/-- Whatever it is: the error's cell; the place, if there is none. -/
theorem Rs.cells (h : Rs w q l s) : w.cell? ⟨q, 2, none⟩ = some (.int .i64 s.why) ∧ ∃ j, w.cell? ⟨q, 1, none⟩ = some (.int .i64 j) ∧ (∀ k, s = .at k → j = k) := by
  obtain ⟨A, cap, j, h1, _, _, _, h5⟩ := h
  refine ⟨h1.cell 2, j, h1.cell 1, fun k e => ?_⟩
  subst e
  exact h5.1
theorem Rs.nz (h : Rs w q l (.bad c a)) : c ≠ 0 := by
  obtain ⟨A, cap, j, _, _, _, _, h5⟩ := h
  exact h5
theorem Rs.le (h : Rs w q l (.at k)) : k ≤ l.length := by
  obtain ⟨A, cap, _, _, _, _, h5⟩ := h.good
  exact h5
/-- The place is written. -/
theorem Rs.moved (h : Rs w q l (.at k)) (n : Nat) (v : Int) (k' : Nat) (hv : v = k') (hk : k' ≤ l.length) :
    Rs ((w.drewN n).setCell ⟨q, 1, none⟩ (.int .i64 v)) q l (.at k') ∧ w.grownBy ((w.drewN n).setCell ⟨q, 1, none⟩ (.int .i64 v)) (some q) := by
  subst hv
  have hlt := h.lt
  obtain ⟨A, cap, h1, h2, h3, h4, _⟩ := h.good
  have hg : w.grownBy ((w.drewN n).setCell ⟨q, 1, none⟩ (.int .i64 k')) (some q) := gb_put (p := ⟨q, 1, none⟩) (gb_drewN (gb_refl w _) n) (.inl rfl) _
  have hw : Whole (w.drewN n) q 42 #[.slice A l.length cap, .int .i64 k, .int .i64 0, .int .i64 0] := h1
  exact ⟨⟨A, cap, k', by simpa [RSt.why, RSt.off] using hw.put 1 (.int .i64 k'), h2.grown hg (Nat.le_of_lt hlt) (fun g e => by injection e with e; omega), h3, h4, rfl, hk⟩, hg⟩
end

theorem fail_ref {w : World} {q : Nat} {l : List UInt8} {s : RSt} (h : Rs w q l s) (c a : Int) (hc : c ≠ 0) :
    Calls Tryd.prog 36 #[.pointer (some ⟨q, 0, none⟩), .int .i64 c, .int .i64 a] w fun e w' => e = .returned (.tuple #[]) ∧ Rs w' q l (s.fail c a) ∧ w.grownBy w' (some q) := by
  cases s with
  | «at» k =>
    show Calls _ _ _ _ fun e w' => e = .returned (.tuple #[]) ∧ Rs w' q l (.bad c a) ∧ w.grownBy w' (some q)
    have hlt := h.lt
    obtain ⟨A, cap, h1, h2, h3, h4, _⟩ := h.good
    have c2 := h1.cell 2
    have c3 := h1.cell 3
    have f2 := h1.frozen 2
    have f3 := h1.frozen 3
    simp only [List.getElem?_toArray, List.getElem?_cons_zero, List.getElem?_cons_succ] at c2 c3
    have hg : w.grownBy ((w.setCell ⟨q, 2, none⟩ (.int .i64 c)).setCell ⟨q, 3, none⟩ (.int .i64 a)) (some q) := gb_put (p := ⟨q, 3, none⟩) (gb_put (p := ⟨q, 2, none⟩) (gb_refl w _) (.inl rfl) _) (.inl rfl) _
    have HG := Lib.hid hg
    have HR : Hid (Rs ((w.setCell ⟨q, 2, none⟩ (.int .i64 c)).setCell ⟨q, 3, none⟩ (.int .i64 a)) q l (.bad c a)) :=
      ⟨A, cap, k, by simpa [RSt.why, RSt.off] using (h1.put 2 (.int .i64 c)).put 3 (.int .i64 a), h2.grown hg (Nat.le_of_lt hlt) (fun g e => by injection e with e; omega), h3, h4, hc⟩
    clear h h1 h2 hg hc
    go_enter Tryd.func36, Tryd.ntmps36
    go_wp2
    go_end0
    exact ⟨rfl, HR.out, HG.out⟩
  | bad c2 a2 =>
    show Calls _ _ _ _ fun e w' => e = .returned (.tuple #[]) ∧ Rs w' q l (.bad c2 a2) ∧ w.grownBy w' (some q)
    have HR := Lib.hid h
    obtain ⟨A, cap, j, h1, _, _, _, hn⟩ := h.badly
    have g2 := h1.cell 2
    simp only [List.getElem?_toArray, List.getElem?_cons_zero, List.getElem?_cons_succ] at g2
    have d : (c2 == 0) = false := by simpa using hn
    clear h h1 hn hc
    go_enter Tryd.func36, Tryd.ntmps36
    go_wp2
    go_end0
    exact ⟨rfl, HR.out, gb_refl _ _⟩

/-- A byte, or 0. -/
def v8 : Res UInt8 → Int
  | .ok c _ => c.toNat
  | .err _ _ => 0
set_option maxHeartbeats 800000 in
theorem byte_ref {w : World} {q : Nat} {l : List UInt8} {s : RSt} (h : Rs w q l s) :
    Calls Tryd.prog 37 #[.pointer (some ⟨q, 0, none⟩)] w fun e w' => e = .returned (.int .i64 (v8 (s.bind (byteR l)))) ∧ Rs w' q l (stOf (s.bind (byteR l))) ∧ w.grownBy w' (some q) := by
  cases s with
  | bad c a =>
    show Calls _ _ _ _ fun e w' => e = .returned (.int .i64 0) ∧ Rs w' q l (.bad c a) ∧ w.grownBy w' (some q)
    have HR := Lib.hid h
    obtain ⟨A, cap, j, h1, _, _, _, hn⟩ := h.badly
    have g2 := h1.cell 2
    simp only [List.getElem?_toArray, List.getElem?_cons_zero, List.getElem?_cons_succ] at g2
    have d : (c != 0) = true := by simpa using hn
    clear h h1 hn
    go_enter Tryd.func37, Tryd.ntmps37
    go_wp2
    go_ret
    exact ⟨rfl, HR.out, gb_refl _ _⟩
  | «at» k =>
    show Calls _ _ _ _ fun e w' => e = .returned (.int .i64 (v8 (byteR l k))) ∧ Rs w' q l (stOf (byteR l k)) ∧ w.grownBy w' (some q)
    have HS := Lib.hid h
    obtain ⟨A, cap, h1, h2, h3, h4, h5⟩ := h.good
    have h4' := h4
    unfold maxLen at h4'
    have c0 := h1.cell 0
    have c1 := h1.cell 1
    have c2 := h1.cell 2
    have f1 := h1.frozen 1
    simp only [List.getElem?_toArray, List.getElem?_cons_zero, List.getElem?_cons_succ] at c0 c1 c2
    unfold byteR
    by_cases hk : k < l.length
    · have hc : l[k]? = some l[k] := List.getElem?_eq_getElem hk
      rw [hc]
      have hcn : (nums l)[k]? = some (l[k].toNat : Int) := by
        unfold nums
        rw [List.getElem?_map, hc]
        rfl
      obtain ⟨c, hcc⟩ : ∃ c, c = l[k] := ⟨_, rfl⟩
      rw [← hcc] at hcn ⊢
      show Calls _ _ _ _ fun e w' => e = .returned (.int .i64 c.toNat) ∧ Rs w' q l (.at (k + 1)) ∧ w.grownBy w' (some q)
      have hw : IntKind.i64.wrap (c.toNat : Int) = c.toNat := by rw [IntKind.wrap_i64]; have := c.toNat_lt; omega
      have d : ¬ l.length ≤ k := by omega
      have d2 : decide ((l.length : Int) ≤ k) = false := by simp; omega
      have e1 : IntKind.i64.wrap ((k : Int) + 1) = k + 1 := by rw [IntKind.wrap_i64]; omega
      have e2 : IntKind.i64.wrap (((k : Int) + 1) - 1) = k := by rw [IntKind.wrap_i64]; omega
      have HM := Lib.hid (fun n => HS.out.moved n ((k : Int) + 1) (k + 1) (by omega) (by omega))
      have HCN := Lib.hid hcn
      clear h h1 h2 hc hcc hcn
      go_enter Tryd.func37, Tryd.ntmps37
      go_wp2
      go_quiet (fail)
      go_wp2
      obtain ⟨hs2, hg2⟩ := HM.out nq
      generalize (w.drewN nq).setCell ⟨q, 1, none⟩ (.int .i64 ((k : Int) + 1)) = W at *
      obtain ⟨A2, cap2, j1, j2, j3, j4, j5⟩ := hs2.good
      obtain ⟨b, off, rfl, _, hcell⟩ := j2.byte HCN.out
      have b0 := j1.cell 0
      have b1 := j1.cell 1
      simp only [List.getElem?_toArray, List.getElem?_cons_zero, List.getElem?_cons_succ] at b0 b1
      rw [show ((k + 1 : Nat) : Int) = (k : Int) + 1 by omega] at b1
      have HS2 := Lib.hid hs2
      have HG2 := Lib.hid hg2
      clear hs2 hg2 j1 j2 c0 c1 c2 f1
      go_quiet (fail)
      go_wp2
      go_ret
      exact ⟨rfl, HS2.out.drewN _, gb_drewN HG2.out _⟩
    · have hc : l[k]? = none := List.getElem?_eq_none (by omega)
      rw [hc]
      show Calls _ _ _ _ fun e w' => e = .returned (.int .i64 0) ∧ Rs w' q l (.bad 2 k) ∧ w.grownBy w' (some q)
      have d : l.length ≤ k := by omega
      have d2 : decide ((l.length : Int) ≤ k) = true := by simp; omega
      have HF := Lib.hid (fun n => fail_ref (HS.out.drewN n) 2 k (by decide))
      clear h h1 h2 hc
      go_enter Tryd.func37, Tryd.ntmps37
      go_wp2
      go_quiet (fail)
      go_wp2_with (go_at_call 36; go_must ((with_reducible refine (HF.out _).mono ?_); rintro e w1 ⟨rfl, hs, hg⟩; have HS1 := Lib.hid hs; have HG1 := Lib.hid hg; clear hs hg))
      go_ret
      exact ⟨rfl, HS1.out, gb_trans (gb_drewN (gb_refl w _) _) HG1.out⟩

/-- creelref02.Read of any bytes. -/
theorem refReadU_any {w : World} {A : Option Addr} {cap B : Nat} {l : List UInt8} (hl : Lies w B A (cells (nums l))) (hB : B ≤ w.heap.size) (hc : l.length ≤ cap) (hm : cap ≤ maxLen) (k n : Nat) (hk : k ≤ l.length) (m1 : 1 ≤ n) (m2 : n ≤ 64) :
    Calls Tryd.prog 86 #[.slice A l.length cap, .int .i64 k, .int .i64 n, .bool false] w fun x w' => x = .returned (readT (uintR l k n)) ∧ Below w.heap.size w w' := by
  have hlen := nums_length l
  have hb := nums_wf l
  have hp := onN_stop l k n
  have hpM := hp.leM
  have hpR := hp.leR
  rw [List.length_drop, hlen] at hpR
  unfold uintR
  rw [if_pos ⟨m1, m2⟩]
  rw [← hlen] at hc hk ⊢
  generalize onN l k n = p at *
  generalize nums l = r at *
  by_cases h1 : p = (n + 6) / 7
  · rw [if_pos h1]
    exact rr_right r A cap B k n p false 0 0 3 w hl hB hb hc hm hk m1 m2 hp (.inl ⟨h1, rfl, rfl, rfl⟩)
  · rw [if_neg h1]
    by_cases h2 : p = r.length - k
    · rw [show (r.drop k)[p]? = none from List.getElem?_eq_none (by rw [List.length_drop]; omega)]
      exact rr_right r A cap B k n p false 0 0 2 w hl hB hb hc hm hk m1 m2 hp (.inr (.inl ⟨by omega, by omega, rfl, rfl, rfl⟩))
    · obtain ⟨c, hpc⟩ : ∃ c, (r.drop k)[p]? = some c := ⟨_, List.getElem?_eq_getElem (by rw [List.length_drop]; omega)⟩
      rw [hpc]
      obtain ⟨c0, c1⟩ := hb c (List.mem_of_mem_drop (List.mem_of_getElem? hpc))
      have hpM2 : p < (n + 6) / 7 := by omega
      have c2 := hp.off c hpM2 hpc
      obtain ⟨l0, l1⟩ := low_bd ((r.drop k).take p)
      obtain ⟨b0, b1⟩ := num_bd hpc c0 c2
      have hlen := take_len hpc
      rw [hlen] at l1
      have hov : numU ((r.drop k).take p) c / 2 ^ n = c / 2 ^ (n - 7 * p) := by unfold numU; rw [hlen]; exact over_more l0 l1 (by omega)
      have hext : ext false (numU ((r.drop k).take p) c) (7 * (p + 1)) = numU ((r.drop k).take p) c := by simp [ext]
      have hgf := good_fits (s := false) (n := n) (m := 7 * (p + 1)) (by omega) m1 b0 b1
      have hfit : Fits false (numU ((r.drop k).take p) c) n ↔ c / 2 ^ (n - 7 * p) = 0 := by unfold Fits; rw [if_neg (by simp), hov]
      rw [hext, hfit] at hgf
      have hlow := low_take hpc c0 c2
      by_cases hf : c / 2 ^ (n - 7 * p) = 0
      · simp only [if_pos hf]
        refine rr_right r A cap B k n p false _ _ _ w hl hB hb hc hm hk m1 m2 hp (.inr (.inr (.inr ⟨hpM2, by omega, ?_, ?_, by omega, rfl⟩)))
        · rw [hlow]; exact hgf.2 hf
        · rw [hlow, hext]
          have hbu := bdU (c := c) l0 l1 c0 (b := n) (by omega) hf
          have hm := mono2 m2
          have e : numU ((r.drop k).take p) c = low ((r.drop k).take p) + c * 2 ^ (7 * p) := by unfold numU; rw [hlen]
          rw [Int.emod_eq_of_lt b0 (by omega)]
      · simp only [if_neg hf]
        refine rr_right r A cap B k n p false _ _ _ w hl hB hb hc hm hk m1 m2 hp (.inr (.inr (.inl ⟨hpM2, by omega, ?_, rfl, rfl, rfl⟩)))
        rw [hlow]; exact fun hg => hf (hgf.1 hg)
/-- .. with a sign. -/
def readM : Res Int → Value
  | .ok v k => .tuple #[.int .u64 (v % 2 ^ 64), .int .i64 k, .int .i64 0]
  | .err c _ => .tuple #[.int .u64 0, .int .i64 0, .int .i64 c]
theorem refReadI_any {w : World} {A : Option Addr} {cap B : Nat} {l : List UInt8} (hl : Lies w B A (cells (nums l))) (hB : B ≤ w.heap.size) (hc : l.length ≤ cap) (hm : cap ≤ maxLen) (k n : Nat) (hk : k ≤ l.length) (m1 : 1 ≤ n) (m2 : n ≤ 64) :
    Calls Tryd.prog 86 #[.slice A l.length cap, .int .i64 k, .int .i64 n, .bool true] w fun x w' => x = .returned (readM (intR l k n)) ∧ Below w.heap.size w w' := by
  have hlen := nums_length l
  have hb := nums_wf l
  have hp := onN_stop l k n
  have hpM := hp.leM
  have hpR := hp.leR
  rw [List.length_drop, hlen] at hpR
  unfold intR
  rw [if_pos ⟨m1, m2⟩]
  rw [← hlen] at hc hk ⊢
  generalize onN l k n = p at *
  generalize nums l = r at *
  by_cases h1 : p = (n + 6) / 7
  · rw [if_pos h1]
    exact rr_right r A cap B k n p true 0 0 3 w hl hB hb hc hm hk m1 m2 hp (.inl ⟨h1, rfl, rfl, rfl⟩)
  · rw [if_neg h1]
    by_cases h2 : p = r.length - k
    · rw [show (r.drop k)[p]? = none from List.getElem?_eq_none (by rw [List.length_drop]; omega)]
      exact rr_right r A cap B k n p true 0 0 2 w hl hB hb hc hm hk m1 m2 hp (.inr (.inl ⟨by omega, by omega, rfl, rfl, rfl⟩))
    · obtain ⟨c, hpc⟩ : ∃ c, (r.drop k)[p]? = some c := ⟨_, List.getElem?_eq_getElem (by rw [List.length_drop]; omega)⟩
      rw [hpc]
      obtain ⟨c0, c1⟩ := hb c (List.mem_of_mem_drop (List.mem_of_getElem? hpc))
      have hpM2 : p < (n + 6) / 7 := by omega
      have c2 := hp.off c hpM2 hpc
      obtain ⟨l0, l1⟩ := low_bd ((r.drop k).take p)
      obtain ⟨b0, b1⟩ := num_bd hpc c0 c2
      have hlen := take_len hpc
      rw [hlen] at l1
      have hov : numS ((r.drop k).take p) c / 2 ^ (n - 1) = sg c / 2 ^ (n - 7 * p - 1) := by
        unfold numS; rw [hlen, show n - 7 * p - 1 = n - 1 - 7 * p by omega]; exact over_more l0 l1 (by omega)
      have hext := ext_signed hpc c0 c2
      have hgf := good_fits (s := true) (n := n) (m := 7 * (p + 1)) (by omega) m1 b0 b1
      have hfit : Fits true (numS ((r.drop k).take p) c) n ↔ (sg c / 2 ^ (n - 7 * p - 1) = 0 ∨ sg c / 2 ^ (n - 7 * p - 1) = -1) := by unfold Fits; rw [if_pos rfl, hov]
      rw [hext, hfit] at hgf
      have hlow := low_take hpc c0 c2
      by_cases hf : sg c / 2 ^ (n - 7 * p - 1) = 0 ∨ sg c / 2 ^ (n - 7 * p - 1) = -1
      · simp only [if_pos hf]
        refine rr_right r A cap B k n p true _ _ _ w hl hB hb hc hm hk m1 m2 hp (.inr (.inr (.inr ⟨hpM2, by omega, ?_, ?_, by omega, rfl⟩)))
        · rw [hlow]; exact hgf.2 hf
        · rw [hlow, hext]
      · simp only [if_neg hf]
        refine rr_right r A cap B k n p true _ _ _ w hl hB hb hc hm hk m1 m2 hp (.inr (.inr (.inl ⟨hpM2, by omega, ?_, rfl, rfl, rfl⟩)))
        rw [hlow]; exact fun hg => hf (hgf.1 hg)
end Go.Proofs.YtjjhgmmkapeifaaDoor

/- The reference's reader: Num, Index, Count, nought. -/
namespace Go.Proofs.YtjjhgmmkapeifaaDoor
open Go.RowKit
set_option linter.unusedVariables false
set_option maxRecDepth 100000

/-- A number, or 0. -/
def vZ : Res Int → Int
  | .ok v _ => v
  | .err _ _ => 0
def vM : Res Int → Int
  | .ok v _ => v % 2 ^ 64
  | .err _ _ => 0
/-- What is held while a number is read. -/
abbrev HNum (w : World) (q : Nat) (v0 v1 : Value) (W : World) : Prop := Below w.heap.size w W ∧ W.cell? ⟨q, 0, none⟩ = some v0 ∧ W.cell? ⟨q, 1, none⟩ = some v1
theorem hnum_on {w : World} {q : Nat} {v0 v1 : Value} {W W' : World} (h : HNum w q v0 v1 W) (hq : q < w.heap.size) (hb : Below W.heap.size W W') : HNum w q v0 v1 W' :=
  ⟨h.1.trans (hb.mono h.1.size), (hb.cell (p := ⟨q, 0, none⟩) (by show q < _; have := h.1.size; omega)).trans h.2.1, (hb.cell (p := ⟨q, 1, none⟩) (by show q < _; have := h.1.size; omega)).trans h.2.2⟩
theorem hnum_start {w : World} {q : Nat} {v0 v1 : Value} (c0 : w.cell? ⟨q, 0, none⟩ = some v0) (c1 : w.cell? ⟨q, 1, none⟩ = some v1) (n : Nat) : HNum w q v0 v1 (w.drewN n) := ⟨⟨rfl, rfl, rfl, Nat.le_refl _, fun _ _ => rfl⟩, c0, c1⟩
theorem hnum_bel {w : World} {q : Nat} {v0 v1 : Value} {W : World} (h : HNum w q v0 v1 W) : Below w.heap.size w W := h.1
set_option maxHeartbeats 1000000 in
theorem numU_ref {w : World} {q : Nat} {l : List UInt8} {s : RSt} (h : Rs w q l s) (n : Nat) (n1 : 1 ≤ n) (n2 : n ≤ 64) :
    Calls Tryd.prog 64 #[.pointer (some ⟨q, 0, none⟩), .int .i64 n, .bool false] w fun e w' => e = .returned (.int .u64 (vZ (s.bind fun k => uintR l k n))) ∧ Rs w' q l (stOf (s.bind fun k => uintR l k n)) ∧ w.grownBy w' (some q) := by
  cases s with
  | bad c a =>
    show Calls _ _ _ _ fun e w' => e = .returned (.int .u64 0) ∧ Rs w' q l (.bad c a) ∧ w.grownBy w' (some q)
    have HR := Lib.hid h
    obtain ⟨A, cap, j, h1, _, _, _, hn⟩ := h.badly
    have g2 := h1.cell 2
    simp only [List.getElem?_toArray, List.getElem?_cons_zero, List.getElem?_cons_succ] at g2
    have d : (c != 0) = true := by simpa using hn
    clear h h1 hn
    go_enter Tryd.func64, Tryd.ntmps64
    go_wp2
    go_ret
    exact ⟨rfl, HR.out, gb_refl _ _⟩
  | «at» k =>
    show Calls _ _ _ _ fun e w' => e = .returned (.int .u64 (vZ (uintR l k n))) ∧ Rs w' q l (stOf (uintR l k n)) ∧ w.grownBy w' (some q)
    have HS := Lib.hid h
    have hlt := h.lt
    obtain ⟨A, cap, h1, h2, h3, h4, h5⟩ := h.good
    have c0 := h1.cell 0
    have c1 := h1.cell 1
    have c2 := h1.cell 2
    simp only [List.getElem?_toArray, List.getElem?_cons_zero, List.getElem?_cons_succ] at c0 c1 c2
    have hU := fun W (hb : Below w.heap.size w W) => refReadU_any (w := W) (h2.below hb (Nat.le_of_lt hlt)) (Nat.le_trans (Nat.le_of_lt hlt) hb.size) h3 h4 k n h5 n1 n2
    cases hr : uintR l k n with
    | ok v k' =>
      show Calls _ _ _ _ fun e w' => e = .returned (.int .u64 v) ∧ Rs w' q l (.at k') ∧ w.grownBy w' (some q)
      simp only [hr, readT] at hU
      have HU := Lib.hid hU
      have HK := Lib.hid (uintR_ok hr).1
      clear hU hr h h1 h2
      go_enter Tryd.func64, Tryd.ntmps64
      go_wp2
      go_region_held3 (fun W => Below w.heap.size w W ∧ W.cell? ⟨q, 0, none⟩ = some (.slice A l.length cap) ∧ W.cell? ⟨q, 1, none⟩ = some (.int .i64 k))
        (first | assumption | exact hnum_start c0 c1 1 | exact hnum_start c0 c1 _)
        ((go_at_call 86; (with_reducible refine (HU.out _ (hnum_bel ‹_›)).mono ?_); rintro e w1 ⟨rfl, hb⟩; have hk1 := hnum_on ‹_› hlt hb; have HK1 := Lib.hid hk1.1; clear hb))
      have HS1 := Lib.hid (Rs.below HS.out HK1.out)
      have HG1 := Lib.hid (gb_of_below (some q) HK1.out)
      obtain ⟨A9, cap9, i1, _⟩ := HS1.out.good
      have x1 := i1.cell 1
      have y1 := i1.frozen 1
      simp only [List.getElem?_toArray, List.getElem?_cons_zero, List.getElem?_cons_succ] at x1
      clear i1 c0 c1 c2
      go_wp2
      go_ret
      have hm := HS1.out.moved 0 (k' : Int) k' rfl HK.out
      exact ⟨rfl, hm.1, gb_trans HG1.out hm.2⟩
    | err c a =>
      obtain ⟨rfl, hcs⟩ := uintR_err hr
      show Calls _ _ _ _ fun e w' => e = .returned (.int .u64 0) ∧ Rs w' q l (.bad c k) ∧ w.grownBy w' (some q)
      simp only [hr, readT] at hU
      have HU := Lib.hid hU
      have hne : c ≠ 0 := by omega
      have d : (c != 0) = true := by simpa using hne
      have HF := Lib.hid (fun W (g : Rs W q l (.at k)) => fail_ref g c k hne)
      clear hU hr h h1 h2 hne hcs
      go_enter Tryd.func64, Tryd.ntmps64
      go_wp2
      go_region_held3 (fun W => Below w.heap.size w W ∧ W.cell? ⟨q, 0, none⟩ = some (.slice A l.length cap) ∧ W.cell? ⟨q, 1, none⟩ = some (.int .i64 k))
        (first | assumption | exact hnum_start c0 c1 1 | exact hnum_start c0 c1 _)
        ((go_at_call 86; (with_reducible refine (HU.out _ (hnum_bel ‹_›)).mono ?_); rintro e w1 ⟨rfl, hb⟩; have hk1 := hnum_on ‹_› hlt hb; have HK1 := Lib.hid hk1.1; clear hb))
      have HS1 := Lib.hid (Rs.below HS.out HK1.out)
      have HG1 := Lib.hid (gb_of_below (some q) HK1.out)
      obtain ⟨A9, cap9, i1, _⟩ := HS1.out.good
      have x1 := i1.cell 1
      have y1 := i1.frozen 1
      simp only [List.getElem?_toArray, List.getElem?_cons_zero, List.getElem?_cons_succ] at x1
      clear i1 c0 c1 c2
      go_wp2_with (go_at_call 36; go_must ((with_reducible refine (HF.out _ HS1.out).mono ?_); rintro e w2 ⟨rfl, hs, hg⟩; have HS2 := Lib.hid hs; have HG2 := Lib.hid hg; clear hs hg))
      go_ret
      exact ⟨rfl, HS2.out, gb_trans HG1.out HG2.out⟩
set_option maxHeartbeats 1000000 in
theorem numS_ref {w : World} {q : Nat} {l : List UInt8} {s : RSt} (h : Rs w q l s) (n : Nat) (n1 : 1 ≤ n) (n2 : n ≤ 64) :
    Calls Tryd.prog 64 #[.pointer (some ⟨q, 0, none⟩), .int .i64 n, .bool true] w fun e w' => e = .returned (.int .u64 (vM (s.bind fun k => intR l k n))) ∧ Rs w' q l (stOf (s.bind fun k => intR l k n)) ∧ w.grownBy w' (some q) := by
  cases s with
  | bad c a =>
    show Calls _ _ _ _ fun e w' => e = .returned (.int .u64 0) ∧ Rs w' q l (.bad c a) ∧ w.grownBy w' (some q)
    have HR := Lib.hid h
    obtain ⟨A, cap, j, h1, _, _, _, hn⟩ := h.badly
    have g2 := h1.cell 2
    simp only [List.getElem?_toArray, List.getElem?_cons_zero, List.getElem?_cons_succ] at g2
    have d : (c != 0) = true := by simpa using hn
    clear h h1 hn
    go_enter Tryd.func64, Tryd.ntmps64
    go_wp2
    go_ret
    exact ⟨rfl, HR.out, gb_refl _ _⟩
  | «at» k =>
    show Calls _ _ _ _ fun e w' => e = .returned (.int .u64 (vM (intR l k n))) ∧ Rs w' q l (stOf (intR l k n)) ∧ w.grownBy w' (some q)
    have HS := Lib.hid h
    have hlt := h.lt
    obtain ⟨A, cap, h1, h2, h3, h4, h5⟩ := h.good
    have c0 := h1.cell 0
    have c1 := h1.cell 1
    have c2 := h1.cell 2
    simp only [List.getElem?_toArray, List.getElem?_cons_zero, List.getElem?_cons_succ] at c0 c1 c2
    have hU := fun W (hb : Below w.heap.size w W) => refReadI_any (w := W) (h2.below hb (Nat.le_of_lt hlt)) (Nat.le_trans (Nat.le_of_lt hlt) hb.size) h3 h4 k n h5 n1 n2
    cases hr : intR l k n with
    | ok v k' =>
      show Calls _ _ _ _ fun e w' => e = .returned (.int .u64 (v % 2 ^ 64)) ∧ Rs w' q l (.at k') ∧ w.grownBy w' (some q)
      simp only [hr, readM] at hU
      obtain ⟨x, hx⟩ : ∃ x, x = v % 2 ^ 64 := ⟨_, rfl⟩
      rw [← hx] at hU ⊢
      have HU := Lib.hid hU
      have HK := Lib.hid (intR_ok hr)
      clear hU hr h h1 h2 hx
      go_enter Tryd.func64, Tryd.ntmps64
      go_wp2
      go_region_held3 (fun W => Below w.heap.size w W ∧ W.cell? ⟨q, 0, none⟩ = some (.slice A l.length cap) ∧ W.cell? ⟨q, 1, none⟩ = some (.int .i64 k))
        (first | assumption | exact hnum_start c0 c1 1 | exact hnum_start c0 c1 _)
        ((go_at_call 86; (with_reducible refine (HU.out _ (hnum_bel ‹_›)).mono ?_); rintro e w1 ⟨rfl, hb⟩; have hk1 := hnum_on ‹_› hlt hb; have HK1 := Lib.hid hk1.1; clear hb))
      have HS1 := Lib.hid (Rs.below HS.out HK1.out)
      have HG1 := Lib.hid (gb_of_below (some q) HK1.out)
      obtain ⟨A9, cap9, i1, _⟩ := HS1.out.good
      have x1 := i1.cell 1
      have y1 := i1.frozen 1
      simp only [List.getElem?_toArray, List.getElem?_cons_zero, List.getElem?_cons_succ] at x1
      clear i1 c0 c1 c2
      go_wp2
      go_ret
      have hm := HS1.out.moved 0 (k' : Int) k' rfl HK.out
      exact ⟨rfl, hm.1, gb_trans HG1.out hm.2⟩
    | err c a =>
      obtain ⟨rfl, hcs⟩ := intR_err hr
      show Calls _ _ _ _ fun e w' => e = .returned (.int .u64 0) ∧ Rs w' q l (.bad c k) ∧ w.grownBy w' (some q)
      simp only [hr, readM] at hU
      have HU := Lib.hid hU
      have hne : c ≠ 0 := by omega
      have d : (c != 0) = true := by simpa using hne
      have HF := Lib.hid (fun W (g : Rs W q l (.at k)) => fail_ref g c k hne)
      clear hU hr h h1 h2 hne hcs
      go_enter Tryd.func64, Tryd.ntmps64
      go_wp2
      go_region_held3 (fun W => Below w.heap.size w W ∧ W.cell? ⟨q, 0, none⟩ = some (.slice A l.length cap) ∧ W.cell? ⟨q, 1, none⟩ = some (.int .i64 k))
        (first | assumption | exact hnum_start c0 c1 1 | exact hnum_start c0 c1 _)
        ((go_at_call 86; (with_reducible refine (HU.out _ (hnum_bel ‹_›)).mono ?_); rintro e w1 ⟨rfl, hb⟩; have hk1 := hnum_on ‹_› hlt hb; have HK1 := Lib.hid hk1.1; clear hb))
      have HS1 := Lib.hid (Rs.below HS.out HK1.out)
      have HG1 := Lib.hid (gb_of_below (some q) HK1.out)
      obtain ⟨A9, cap9, i1, _⟩ := HS1.out.good
      have x1 := i1.cell 1
      have y1 := i1.frozen 1
      simp only [List.getElem?_toArray, List.getElem?_cons_zero, List.getElem?_cons_succ] at x1
      clear i1 c0 c1 c2
      go_wp2_with (go_at_call 36; go_must ((with_reducible refine (HF.out _ HS1.out).mono ?_); rintro e w2 ⟨rfl, hs, hg⟩; have HS2 := Lib.hid hs; have HG2 := Lib.hid hg; clear hs hg))
      go_ret
      exact ⟨rfl, HS2.out, gb_trans HG1.out HG2.out⟩

theorem vZ_bd {l : List UInt8} {s : RSt} : 0 ≤ vZ (s.bind (indexR l)) ∧ vZ (s.bind (indexR l)) ≤ 4294967295 := by
  cases s with
  | bad c a => exact ⟨Int.le_refl _, by show (0 : Int) ≤ _; omega⟩
  | «at» k =>
    show 0 ≤ vZ (indexR l k) ∧ vZ (indexR l k) ≤ 4294967295
    cases hr : indexR l k with
    | err c a => exact ⟨Int.le_refl _, by show (0 : Int) ≤ _; omega⟩
    | ok v k' => exact (indexR_ok hr).2
theorem index_ref {w : World} {q : Nat} {l : List UInt8} {s : RSt} (h : Rs w q l s) :
    Calls Tryd.prog 62 #[.pointer (some ⟨q, 0, none⟩)] w fun e w' => e = .returned (.int .u32 (vZ (s.bind (indexR l)))) ∧ Rs w' q l (stOf (s.bind (indexR l))) ∧ w.grownBy w' (some q) := by
  have HN := Lib.hid (show Calls Tryd.prog 64 #[.pointer (some ⟨q, 0, none⟩), .int .i64 32, .bool false] w fun e w' => e = .returned (.int .u64 (vZ (s.bind (indexR l)))) ∧ Rs w' q l (stOf (s.bind (indexR l))) ∧ w.grownBy w' (some q) from numU_ref h 32 (by omega) (by omega))
  obtain ⟨b0, b1⟩ := vZ_bd (l := l) (s := s)
  generalize vZ (s.bind (indexR l)) = x at *
  have hw : IntKind.u32.wrap x = x := by simp [IntKind.wrap, IntKind.bits, IntKind.signed]; omega
  clear h
  go_enter Tryd.func62, Tryd.ntmps62
  go_wp2_with (go_at_call 64; go_must ((with_reducible refine HN.out.mono ?_); rintro e w1 ⟨rfl, hs, hg⟩; have HS := Lib.hid hs; have HG := Lib.hid hg; clear hs hg))
  go_ret
  exact ⟨rfl, HS.out, HG.out⟩

set_option maxHeartbeats 800000 in
theorem count_ref {w : World} {q : Nat} {l : List UInt8} {k : Nat} (h : Rs w q l (.at k)) :
    Calls Tryd.prog 61 #[.pointer (some ⟨q, 0, none⟩)] w fun e w' => e = .returned (.int .i64 (vZ (countR l k))) ∧ Rs w' q l (stOf (countR l k)) ∧ w.grownBy w' (some q) := by
  have HN := Lib.hid (show Calls Tryd.prog 62 #[.pointer (some ⟨q, 0, none⟩)] w fun e w' => e = .returned (.int .u32 (vZ (indexR l k))) ∧ Rs w' q l (stOf (indexR l k)) ∧ w.grownBy w' (some q) from index_ref h)
  obtain ⟨A, cap, h1, _⟩ := h.good
  have c1 := h1.cell 1
  simp only [List.getElem?_toArray, List.getElem?_cons_zero, List.getElem?_cons_succ] at c1
  unfold countR atMostR
  cases hr : indexR l k with
  | err c a =>
    rw [hr] at HN
    rw [Res.bind_err]
    show Calls _ _ _ _ fun e w' => e = .returned (.int .i64 0) ∧ Rs w' q l (.bad c a) ∧ w.grownBy w' (some q)
    obtain ⟨rfl, hcs⟩ := uintR_err (show uintR l k 32 = .err c a from hr)
    have hne : (c != 0) = true := by simp; omega
    have HN2 := Lib.hid (show Calls Tryd.prog 62 #[.pointer (some ⟨q, 0, none⟩)] w fun e w' => e = .returned (.int .u32 0) ∧ Rs w' q l (.bad c k) ∧ w.grownBy w' (some q) from HN.out)
    clear h h1 hr HN hcs
    go_enter Tryd.func61, Tryd.ntmps61
    go_wp2_with (go_at_call 62; go_must ((with_reducible refine HN2.out.mono ?_); rintro e w1 ⟨rfl, hs, hg⟩; have HS := Lib.hid hs; have HG := Lib.hid hg; have x2 := hs.cells.1; rw [show (RSt.bad c k).why = c from rfl] at x2; clear hs hg c1))
    go_ret
    exact ⟨rfl, HS.out, HG.out⟩
  | ok v k' =>
    rw [hr] at HN
    rw [Res.bind_ok]
    obtain ⟨_, v0, v1⟩ := indexR_ok hr
    have HN2 := Lib.hid (show Calls Tryd.prog 62 #[.pointer (some ⟨q, 0, none⟩)] w fun e w' => e = .returned (.int .u32 v) ∧ Rs w' q l (.at k') ∧ w.grownBy w' (some q) from HN.out)
    have hw : IntKind.i64.wrap v = v := by rw [IntKind.wrap_i64]; omega
    by_cases hm : v ≤ 10000
    · rw [if_pos hm]
      show Calls _ _ _ _ fun e w' => e = .returned (.int .i64 v) ∧ Rs w' q l (.at k') ∧ w.grownBy w' (some q)
      have d : decide (10000 < v) = false := by simp; omega
      clear h h1 hr HN v0 v1
      go_enter Tryd.func61, Tryd.ntmps61
      go_wp2_with (go_at_call 62; go_must ((with_reducible refine HN2.out.mono ?_); rintro e w1 ⟨rfl, hs, hg⟩; have HS := Lib.hid hs; have HG := Lib.hid hg; have x2 := hs.cells.1; rw [show (RSt.at k').why = 0 from rfl] at x2; clear hs hg c1))
      go_ret
      exact ⟨rfl, HS.out, HG.out⟩
    · rw [if_neg hm]
      show Calls _ _ _ _ fun e w' => e = .returned (.int .i64 0) ∧ Rs w' q l (.bad 29 k) ∧ w.grownBy w' (some q)
      have d : decide (10000 < v) = true := by simp; omega
      have HF := Lib.hid (fun W (g : Rs W q l (.at k')) => show Calls Tryd.prog 36 #[.pointer (some ⟨q, 0, none⟩), .int .i64 29, .int .i64 k] W fun e w' => e = .returned (.tuple #[]) ∧ Rs w' q l (.bad 29 k) ∧ W.grownBy w' (some q) from fail_ref g 29 k (by decide))
      clear h h1 hr HN v0 v1 hm
      go_enter Tryd.func61, Tryd.ntmps61
      go_wp2_with (first
        | (go_at_call 62; go_must ((with_reducible refine HN2.out.mono ?_); rintro e w1 ⟨rfl, hs, hg⟩; have HS := Lib.hid hs; have HG := Lib.hid hg; clear hs hg c1))
        | (go_at_call 36; go_must ((with_reducible refine (HF.out _ HS.out).mono ?_); rintro e w2 ⟨rfl, hs, hg⟩; have HS2 := Lib.hid hs; have HG2 := Lib.hid hg; have x2 := hs.cells.1; rw [show (RSt.bad 29 k).why = 29 from rfl] at x2; clear hs hg)))
      go_ret
      exact ⟨rfl, HS2.out, gb_trans HG.out HG2.out⟩

theorem nought_ref {w : World} {q : Nat} {l : List UInt8} {s : RSt} (h : Rs w q l s) :
    Calls Tryd.prog 63 #[.pointer (some ⟨q, 0, none⟩)] w fun e w' => e = .returned (.tuple #[]) ∧ Rs w' q l (stOf (s.bind (noughtR l))) ∧ w.grownBy w' (some q) := by
  have hB := byte_ref h
  obtain ⟨_, j, c1, hj⟩ := h.cells
  cases s with
  | bad c a =>
    have HB := Lib.hid (show Calls Tryd.prog 37 #[.pointer (some ⟨q, 0, none⟩)] w fun e w' => e = .returned (.int .i64 0) ∧ Rs w' q l (.bad c a) ∧ w.grownBy w' (some q) from hB)
    show Calls _ _ _ _ fun e w' => e = .returned (.tuple #[]) ∧ Rs w' q l (.bad c a) ∧ w.grownBy w' (some q)
    clear h hB hj
    go_enter Tryd.func63, Tryd.ntmps63
    go_wp2_with (go_at_call 37; go_must ((with_reducible refine HB.out.mono ?_); rintro e w1 ⟨rfl, hs, hg⟩; have HS := Lib.hid hs; have HG := Lib.hid hg; clear hs hg))
    go_end0
    exact ⟨rfl, HS.out, HG.out⟩
  | «at» k =>
    obtain rfl := hj k rfl
    show Calls _ _ _ _ fun e w' => e = .returned (.tuple #[]) ∧ Rs w' q l (stOf (noughtR l k)) ∧ w.grownBy w' (some q)
    unfold noughtR
    have hB2 : Calls Tryd.prog 37 #[.pointer (some ⟨q, 0, none⟩)] w fun e w' => e = .returned (.int .i64 (v8 (byteR l k))) ∧ Rs w' q l (stOf (byteR l k)) ∧ w.grownBy w' (some q) := hB
    cases hr : byteR l k with
    | err c a =>
      rw [hr] at hB2
      rw [Res.bind_err]
      have HB := Lib.hid (show Calls Tryd.prog 37 #[.pointer (some ⟨q, 0, none⟩)] w fun e w' => e = .returned (.int .i64 0) ∧ Rs w' q l (.bad c a) ∧ w.grownBy w' (some q) from hB2)
      show Calls _ _ _ _ fun e w' => e = .returned (.tuple #[]) ∧ Rs w' q l (.bad c a) ∧ w.grownBy w' (some q)
      clear h hB hB2 hr hj
      go_enter Tryd.func63, Tryd.ntmps63
      go_wp2_with (go_at_call 37; go_must ((with_reducible refine HB.out.mono ?_); rintro e w1 ⟨rfl, hs, hg⟩; have HS := Lib.hid hs; have HG := Lib.hid hg; clear hs hg))
      go_end0
      exact ⟨rfl, HS.out, HG.out⟩
    | ok c k' =>
      rw [hr] at hB2
      rw [Res.bind_ok]
      have HB := Lib.hid (show Calls Tryd.prog 37 #[.pointer (some ⟨q, 0, none⟩)] w fun e w' => e = .returned (.int .i64 c.toNat) ∧ Rs w' q l (.at k') ∧ w.grownBy w' (some q) from hB2)
      by_cases hc : c = 0
      · rw [if_pos hc]
        show Calls _ _ _ _ fun e w' => e = .returned (.tuple #[]) ∧ Rs w' q l (.at k') ∧ w.grownBy w' (some q)
        have d : ((c.toNat : Int) != 0) = false := by rw [hc]; rfl
        clear h hB hB2 hr hj hc
        go_enter Tryd.func63, Tryd.ntmps63
        go_wp2_with (go_at_call 37; go_must ((with_reducible refine HB.out.mono ?_); rintro e w1 ⟨rfl, hs, hg⟩; have HS := Lib.hid hs; have HG := Lib.hid hg; clear hs hg))
        go_end0
        exact ⟨rfl, HS.out, HG.out⟩
      · rw [if_neg hc]
        show Calls _ _ _ _ fun e w' => e = .returned (.tuple #[]) ∧ Rs w' q l (.bad 10 k) ∧ w.grownBy w' (some q)
        have d : ((c.toNat : Int) != 0) = true := by
          have : c.toNat ≠ 0 := fun e => hc (UInt8.toNat_inj.1 (by rw [e]; rfl))
          simp; omega
        have HF := Lib.hid (fun W (g : Rs W q l (.at k')) => show Calls Tryd.prog 36 #[.pointer (some ⟨q, 0, none⟩), .int .i64 10, .int .i64 k] W fun e w' => e = .returned (.tuple #[]) ∧ Rs w' q l (.bad 10 k) ∧ W.grownBy w' (some q) from fail_ref g 10 k (by decide))
        clear h hB hB2 hr hj hc
        go_enter Tryd.func63, Tryd.ntmps63
        go_wp2_with (first
          | (go_at_call 37; go_must ((with_reducible refine HB.out.mono ?_); rintro e w1 ⟨rfl, hs, hg⟩; have HS := Lib.hid hs; have HG := Lib.hid hg; clear hs hg))
          | (go_at_call 36; go_must ((with_reducible refine (HF.out _ HS.out).mono ?_); rintro e w2 ⟨rfl, hs, hg⟩; have HS2 := Lib.hid hs; have HG2 := Lib.hid hg; clear hs hg)))
        go_end0
        exact ⟨rfl, HS2.out, gb_trans HG.out HG2.out⟩
end Go.Proofs.YtjjhgmmkapeifaaDoor

/- What the reference's Get keeps on its way; its labels in a row of its own. -/
namespace Go.Proofs.YtjjhgmmkapeifaaDoor
open Go.RowKit
set_option linter.unusedVariables false
set_option maxRecDepth 100000

theorem own_whole {W : World} {b : Nat} {e : TypeId} {s n q : Nat} {v : Value} {xs : List Value} {t : TypeId} {cs : Array Value} (h : W.ownsRow b e s v n xs) (hw : Whole W q t cs) (ht : t ≠ e) : some q ≠ v.ownBlock := by
  rcases h.2 with ⟨rfl, _⟩ | ⟨g, cap, cur, rfl, _, hg, _⟩
  · simp [Value.ownBlock]
  · simp only [Value.ownBlock, ne_eq, Option.some.injEq]
    exact hw.apart (show Whole W g e cur from hg) ht
theorem gb_of_drew {w w' : World} {row : Option Nat} {n : Nat} (h : (w.drewN n).grownBy w' row) : w.grownBy w' row := ⟨h.os, h.tape, h.output, h.size, h.block⟩
theorem gb_of_drew1 {w w' : World} {row : Option Nat} (h : w.drew.grownBy w' row) : w.grownBy w' row := ⟨h.os, h.tape, h.output, h.size, h.block⟩
theorem Rs.drew {w : World} {q : Nat} {l : List UInt8} {s : RSt} (h : Rs w q l s) : Rs w.drew q l s := h
theorem byteR_nz {l : List UInt8} {k : Nat} {c a : Int} (h : byteR l k = .err c a) : c ≠ 0 := by
  unfold byteR at h
  cases hc : l[k]? with
  | none => rw [hc] at h; injection h with h1 h2; omega
  | some d => rw [hc] at h; cases h
theorem indexR_nz {l : List UInt8} {k : Nat} {c a : Int} (h : indexR l k = .err c a) : c ≠ 0 := by
  have := (uintR_err (show uintR l k 32 = .err c a from h)).2
  omega
theorem intR_nz {l : List UInt8} {k n : Nat} {c a : Int} (h : intR l k n = .err c a) : c ≠ 0 := by
  have := (intR_err h).2
  omega
theorem noughtR_nz {l : List UInt8} {k : Nat} {c a : Int} (h : noughtR l k = .err c a) : c ≠ 0 := by
  unfold noughtR at h
  cases hr : byteR l k with
  | err e b => rw [hr, Res.bind_err] at h; injection h with h1 h2; have := byteR_nz hr; omega
  | ok d p =>
    rw [hr, Res.bind_ok] at h
    by_cases hd : d = 0
    · rw [if_pos hd] at h; cases h
    · rw [if_neg hd] at h; injection h with h1 h2; omega

/-- How far the reference's Get has come: its result's block, the instruction's box, the reader. -/
structure RGt (w : World) (q : Nat) (l : List UInt8) (H2 : Nat) (A : Option Addr) (ls : List Int) (s : RSt) (v0 v1 v2 v3 : Value) (W : World) : Prop where
  res : Whole W w.heap.size 25 #[.int .u8 0, .int .u64 0, .int .u64 0, .slice none 0 0]
  box : Whole W H2 25 #[v0, v1, v2, v3]
  rs : Rs W q l s
  gr : w.grownBy W (some q)
  hq : q < w.heap.size
  h2 : w.heap.size < H2
  lab : Lies W W.heap.size A (cells32 ls)
  far : ∀ a, A = some a → H2 < a.block
/-- .. while its labels are read. -/
structure RLp (w : World) (q : Nat) (l : List UInt8) (H2 : Nat) (c : Int) (s : RSt) (vb v : Value) (acc : List Int) (W : World) : Prop where
  res : Whole W w.heap.size 25 #[.int .u8 0, .int .u64 0, .int .u64 0, .slice none 0 0]
  box : Whole W H2 25 #[.int .u8 c, .int .u64 0, .int .u64 0, vb]
  rs : Rs W q l s
  gr : w.grownBy W (some q)
  hq : q < w.heap.size
  h2 : w.heap.size < H2
  row : W.ownsRow (H2 + 1) 26 1 v acc.length (cells32 acc)
section
variable {w : World} {q : Nat} {l : List UInt8} {H2 : Nat} {A : Option Addr} {ls : List Int} {s s' : RSt} {v0 v1 v2 v3 : Value} {W W' : World} {c : Int} {vb v v' : Value} {acc : List Int}
theorem RGt.call (h : RGt w q l H2 A ls s v0 v1 v2 v3 W) (hs : Rs W' q l s') (hg : W.grownBy W' (some q)) : RGt w q l H2 A ls s' v0 v1 v2 v3 W' := by
  have a := h.hq
  have b := h.h2
  exact ⟨h.res.grown hg (by simp only [ne_eq, Option.some.injEq]; omega), h.box.grown hg (by simp only [ne_eq, Option.some.injEq]; omega), hs, gb_trans h.gr hg, h.hq, h.h2, h.lab.keep hg (fun x hx => by have := h.far x hx; omega), h.far⟩
theorem RGt.below (h : RGt w q l H2 A ls s v0 v1 v2 v3 W) (hb : Below W.heap.size W W') : RGt w q l H2 A ls s v0 v1 v2 v3 W' := h.call (h.rs.below hb) (gb_of_below _ hb)
theorem RGt.put (h : RGt w q l H2 A ls s v0 v1 v2 v3 W) (i : Nat) (x : Value) {u0 u1 u2 u3 : Value} (he : #[v0, v1, v2, v3].setIfInBounds i x = #[u0, u1, u2, u3]) : RGt w q l H2 A ls s u0 u1 u2 u3 (W.setCell ⟨H2, i, none⟩ x) := by
  have a := h.hq
  have b := h.h2
  have hg : W.grownBy (W.setCell ⟨H2, i, none⟩ x) (some H2) := gb_put (p := ⟨H2, i, none⟩) (gb_refl W _) (.inl rfl) x
  have hb := h.box.put i x
  rw [he] at hb
  exact ⟨h.res.grown hg (by simp only [ne_eq, Option.some.injEq]; omega), hb, h.rs.grown hg (by simp only [ne_eq, Option.some.injEq]; omega) (fun g e => by injection e with e; omega), gb_before h.gr hg (fun g e => .inr (by injection e with e; omega)), h.hq, h.h2,
    h.lab.keep hg (fun x hx => by have := h.far x hx; omega), h.far⟩
/-- The result is written. -/
theorem RGt.fin (h : RGt w q l H2 A ls s v0 v1 v2 v3 W) (x0 x1 x2 x3 : Value) (W4 : World) (hW : W4 = (((W.setCell ⟨w.heap.size, 0, none⟩ x0).setCell ⟨w.heap.size, 1, none⟩ x1).setCell ⟨w.heap.size, 2, none⟩ x2).setCell ⟨w.heap.size, 3, none⟩ x3) :
    Whole W4 w.heap.size 25 #[x0, x1, x2, x3] ∧ Rs W4 q l s ∧ w.grownBy W4 (some q) ∧ Lies W4 W4.heap.size A (cells32 ls) := by
  subst hW
  have a := h.hq
  have b := h.h2
  have hg := gb_put (p := ⟨w.heap.size, 3, none⟩) (gb_put (p := ⟨w.heap.size, 2, none⟩) (gb_put (p := ⟨w.heap.size, 1, none⟩) (gb_put (p := ⟨w.heap.size, 0, none⟩) (gb_refl W (some w.heap.size)) (.inl rfl) x0) (.inl rfl) x1) (.inl rfl) x2) (.inl rfl) x3
  exact ⟨(((h.res.put 0 x0).put 1 x1).put 2 x2).put 3 x3, h.rs.grown hg (by simp only [ne_eq, Option.some.injEq]; omega) (fun g e => by injection e with e; omega), gb_before h.gr hg (fun g e => .inr (by injection e with e; omega)), h.lab.keep hg (fun x hx => by have := h.far x hx; omega)⟩
theorem RGt.loop (h : RGt w q l H2 none [] s (.int .u8 c) (.int .u64 0) (.int .u64 0) (.slice none 0 0) W) : RLp w q l H2 c s (.slice none 0 0) (.slice none 0 0) [] W :=
  ⟨h.res, h.box, h.rs, h.gr, h.hq, h.h2, World.ownsRow_nil _ _ _ _⟩
theorem RLp.call (h : RLp w q l H2 c s vb v acc W) (hs : Rs W' q l s') (hg : W.grownBy W' (some q)) : RLp w q l H2 c s' vb v acc W' := by
  have a := h.hq
  have b := h.h2
  obtain ⟨A0, cap0, k0, hwh, _⟩ := h.rs
  exact ⟨h.res.grown hg (by simp only [ne_eq, Option.some.injEq]; omega), h.box.grown hg (by simp only [ne_eq, Option.some.injEq]; omega), hs, gb_trans h.gr hg, h.hq, h.h2,
    World.ownsRow.kept h.row hg (.inr (fun e => own_whole h.row hwh (by decide) e.symm))⟩
theorem RLp.app {x : Int} {w' : World} (h : RLp w q l H2 c s vb v acc W) (hr : w'.ownsRow (H2 + 1) 26 1 v' (acc ++ [x]).length (cells32 (acc ++ [x]))) (hg : (W.alloc (.cells #[.int .u32 x] 26)).grownBy w' v.ownBlock) :
    RLp w q l H2 c s vb v' (acc ++ [x]) w' := by
  have a := h.hq
  have b := h.h2
  have hlo : ∀ g, v.ownBlock = some g → H2 + 1 ≤ g := fun g e => (World.ownsRow.lt h.row g e).1
  have hrs := h.rs
  obtain ⟨A0, cap0, k0, hwh, _⟩ := hrs
  exact ⟨(h.res.alloc _).grown hg (own_whole h.row h.res (by decide)), (h.box.alloc _).grown hg (own_whole h.row h.box (by decide)), (h.rs.alloc _).grown hg (own_whole h.row hwh (by decide)) (fun g e => by have := hlo g e; omega),
    gb_before (gb_alloc h.gr _) hg (fun g e => .inr (by have := hlo g e; omega)), h.hq, h.h2, hr⟩
theorem RLp.store (h : RLp w q l H2 c s vb v acc W) : RLp w q l H2 c s v v acc (W.setCell ⟨H2, 3, none⟩ v) := by
  have a := h.hq
  have b := h.h2
  have hg : W.grownBy (W.setCell ⟨H2, 3, none⟩ v) (some H2) := gb_put (p := ⟨H2, 3, none⟩) (gb_refl W _) (.inl rfl) v
  exact ⟨h.res.grown hg (by simp only [ne_eq, Option.some.injEq]; omega), h.box.put 3 v, h.rs.grown hg (by simp only [ne_eq, Option.some.injEq]; omega) (fun g e => by injection e with e; omega), gb_before h.gr hg (fun g e => .inr (by injection e with e; omega)), h.hq, h.h2,
    World.ownsRow.kept h.row hg (.inr (fun e => own_whole h.row h.box (by decide) e.symm))⟩
theorem RLp.gt (h : RLp w q l H2 c s v v acc W) : ∃ A cap, v = .slice A acc.length cap ∧ RGt w q l H2 A acc s (.int .u8 c) (.int .u64 0) (.int .u64 0) (.slice A acc.length cap) W := by
  obtain ⟨A, cap, rfl, _, _, hl, hf⟩ := lies_own h.row
  exact ⟨A, cap, rfl, h.res, h.box, h.rs, h.gr, h.hq, h.h2, hl, fun a ha => by have := (hf a ha).1; omega⟩
end
/-- At a step of a region that draws its order: append of a new block of one number. -/
theorem step32 {w : World} {ops : Array Oper} {o : Oper} {a : Act} {K : Act → World → Prop} {Q : Exit → Act → World → Prop} {E : Prop} (hgd : o.guard = none) (s x : Operand)
    (ho : o.op = .call { callee := .builtin .append, args := #[s, x], argTypes := #[23, 23] })
    (B : Nat) (v : Value) (acc : List Int) (hs : a.eval s = v) (hr : w.ownsRow B 26 1 v acc.length (cells32 acc)) (g : Nat) (y : Int) (hx : a.eval x = .slice (some ⟨g, 0, none⟩) 1 1)
    (hg : Whole w g 26 #[.int .u32 y]) (hb : acc.length ≤ 10000) (hB : B ≤ w.heap.size)
    (h : ∀ v' w', w'.ownsRow B 26 1 v' (acc ++ [y]).length (cells32 (acc ++ [y])) → w.grownBy w' v.ownBlock → K (a.put o.dst v') w') :
    if Region.wanted o (yielded ops a.tmps) = true then Oper.wp Tryd.prog o a w K Q else E := by
  have hw : Region.wanted o (yielded ops a.tmps) = true := by simp [Region.wanted, hgd]
  rw [if_pos hw]
  obtain ⟨i0, hi0, hz0, hz1, hz2⟩ := info_parts info32
  refine wp_append_own _ s x _ ho B 26 i0 _ 1 4 Tryd.underlying23 hi0 hz0 hz1 hz2 rfl (by omega) v _ _ hs hr ⟨g, 0, none⟩ 1 1 [.int .u32 y] hx rfl ?_ ?_ (by unfold maxLen; omega) (by omega) hB (fun v' w' h2 h3 _ => h v' w' ?_ h3)
  · intro j u hu
    rw [Go.WideShapes.add_plain, Nat.zero_add, hg.cell]
    simpa using hu
  · intro u hu
    simp only [List.mem_cons, List.not_mem_nil, or_false] at hu
    subst hu
    rfl
  · rw [List.length_append]
    unfold cells32 at *
    rw [List.map_append]
    simpa using h2

/-- The labels' loop: j of n are read. -/
def Inv32 (l : List UInt8) (n j : Nat) (s : RSt) (acc : List Int) (R : Res (List Int)) : Prop := match s with
  | .at p => acc.length = j ∧ idxK l (n - j) p acc = R
  | .bad c a => R = .err c a
theorem count_start {l : List UInt8} {k : Nat} : ∃ (n : Nat) (s0 : RSt), n ≤ 10000 ∧ (vZ (countR l k) = n ∧ stOf (countR l k) = s0) ∧ Inv32 l n 0 s0 [] (labelsR l k) := by
  unfold labelsR
  cases hr : countR l k with
  | err c a => exact ⟨0, .bad c a, by omega, ⟨rfl, rfl⟩, rfl⟩
  | ok v p =>
    obtain ⟨v0, v1⟩ := countR_ok hr
    refine ⟨v.toNat, .at p, by omega, ⟨?_, rfl⟩, rfl, rfl⟩
    show v = _
    omega
theorem index_step {l : List UInt8} {n j p : Nat} {acc : List Int} {R : Res (List Int)} (h : ((indexR l p).bind fun x q2 => idxK l (n - (j + 1)) q2 (acc ++ [x])) = R) (ha : acc.length = j) (hj : j < n) :
    ∃ (x : Int) (s2 : RSt), 0 ≤ x ∧ x ≤ 4294967295 ∧ (vZ (indexR l p) = x ∧ stOf (indexR l p) = s2) ∧ Inv32 l n (j + 1) s2 (acc ++ [x]) R := by
  cases hr : indexR l p with
  | err c a =>
    rw [hr, Res.bind_err] at h
    exact ⟨0, .bad c a, by omega, by omega, ⟨rfl, rfl⟩, h.symm⟩
  | ok x q2 =>
    rw [hr, Res.bind_ok] at h
    obtain ⟨_, h1, h2⟩ := indexR_ok hr
    exact ⟨x, .at q2, h1, h2, ⟨rfl, rfl⟩, by simp; omega, h⟩
end Go.Proofs.YtjjhgmmkapeifaaDoor
