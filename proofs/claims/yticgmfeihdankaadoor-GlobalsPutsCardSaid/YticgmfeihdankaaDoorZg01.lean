/- types.Cut, Zero; creelref04.Cut; types.EncodeGlobal, creelref04.EncodeGlobal. -/
import Derived.Test.YticgmfeihdankaaDoorZm02
import Derived.Test.YticgmfeihdankaaDoorZm01
import Derived.Test.YticgmfeihdankaaDoorZm10
import Derived.Test.YticgmfeihdankaaDoorZm11
import Derived.Test.YticgmfeihdankaaDoorZm03
import Derived.Test.YticgmfeihdankaaDoorZm07
import Derived.Test.YticgmfeihdankaaDoorZm08
import Derived.OwnWalk
import Derived.Deep.LoopGhost
namespace Go.Proofs.YticgmfeihdankaaDoor
set_option linter.unusedVariables false
set_option maxRecDepth 100000
open Go.RowKit

/-- A value, by its type and number. -/
abbrev vv (t n : Int) : Value := .agg #[.int .u8 t, .int .u64 n]
def cutZ (t n : Int) : Int := if t = 127 then n % 4294967296 else n
def rightB (t n : Int) : Bool := decide (valueZ t = 0) && decide (cutZ t n = n)
theorem and_low (n : Int) (h0 : 0 ≤ n) (h1 : n ≤ 18446744073709551615) : bits .and .u64 n 4294967295 = n % 4294967296 := by
  have e1 : (BitVec.ofInt 64 n).toNat = n.toNat := by
    rw [BitVec.toNat_ofInt]
    show (n % 18446744073709551616).toNat = _
    rw [Int.emod_eq_of_lt h0 (by omega)]
  have e2 : (BitVec.ofInt 64 4294967295).toNat = 2 ^ 32 - 1 := by decide
  show IntKind.u64.wrap ((BitVec.ofInt 64 n &&& BitVec.ofInt 64 4294967295).toNat : Nat) = _
  rw [BitVec.toNat_and, e1, e2, Nat.and_two_pow_sub_one_eq_mod]
  simp only [IntKind.wrap, IntKind.bits, IntKind.signed]
  simp
  omega

theorem below_two (w : World) (o o' : Obj) : Below w.heap.size w ((w.alloc o).alloc o') := (below_box w o).alloc (by simp) _
theorem refCut_any (t n : Int) (w : World) (n0 : 0 ≤ n) (n1 : n ≤ 18446744073709551615) : Calls Tryd.prog 59 #[vv t n] w fun e w' => e = .returned (vv t (cutZ t n)) ∧ Below w.heap.size w w' := by
  by_cases h : t = 127
  · subst h
    have he : cutZ 127 n = n % 4294967296 := rfl
    rw [he]
    clear he
    go_enter Tryd.func59, Tryd.ntmps59
    go_wp2
    exact bodyPost_ret (v := vv 127 (n % 4294967296)) (by simp [results, Tryd.results59, go_sem]) rfl ⟨rfl, below_two _ _ _⟩
  · have hb : (t == 127) = false := by simpa using h
    have he : cutZ t n = n := by unfold cutZ; rw [if_neg h]
    rw [he]
    clear he h
    go_enter Tryd.func59, Tryd.ntmps59
    go_wp2
    exact bodyPost_ret (v := vv t n) (by simp [results, Tryd.results59, go_sem]) rfl ⟨rfl, below_two _ _ _⟩
/-- A global's type, by value. -/
abbrev gv (t : Int) (m : Bool) : Value := .agg #[.int .u8 t, .bool m]
theorem two_of {w W W' : World} {u v : Value} {t : TypeId} (h : Boxed w (.cells #[u, v] t) W ∧ W.cell? ⟨w.heap.size, 0, none⟩ = some u ∧ W.cell? ⟨w.heap.size, 1, none⟩ = some v) (hb : Below W.heap.size W W') :
    Boxed w (.cells #[u, v] t) W' ∧ W'.cell? ⟨w.heap.size, 0, none⟩ = some u ∧ W'.cell? ⟨w.heap.size, 1, none⟩ = some v := ⟨h.1.on hb, (h.1.on hb).row 0, (h.1.on hb).row 1⟩
theorem encG_new (w : World) (t : Int) (m : Bool) (h0 : 0 ≤ t) (h1 : t ≤ 255) (B H : Nat) (hH : w.heap.size = H) (hb : B ≤ H) :
    Row (w.alloc (.cells #[.int .u8 t, .int .u8 (if m then 1 else 0)] 5)) B (.slice (some ⟨H, 0, none⟩) 2 2) (encG t m) := by
  have h := Row.made w (encG t m) B H hH hb (by simp [encG])
  rw [nums_encG t m h0 h1] at h
  exact h
set_option maxHeartbeats 1000000 in
theorem encG_any (t : Int) (m : Bool) (w : World) (h0 : 0 ≤ t) (h1 : t ≤ 255) : Calls Tryd.prog 108 #[gv t m] w (BytesL (encG t m) w) := by
  have FL := Lib.hid (fun w => flag_any m w)
  obtain ⟨f, hf⟩ : ∃ f : Int, f = if m then 1 else 0 := ⟨_, rfl⟩
  have RA := Lib.hid (fun w' B H hH hb => encG_new w' t m h0 h1 B H hH hb)
  rw [← hf] at RA FL
  clear hf
  go_enter Tryd.func108, Tryd.ntmps108
  go_wp2
  go_region_held3 (fun W => Boxed w (.cells #[.int .u8 t, .bool m] 89) W ∧ W.cell? ⟨w.heap.size, 0, none⟩ = some (.int .u8 t) ∧ W.cell? ⟨w.heap.size, 1, none⟩ = some (.bool m))
    (first | assumption | (exact ⟨Boxed.start _ _, (Boxed.start _ _).row 0, (Boxed.start _ _).row 1⟩) | (exact two_of (by assumption) (below_box _ _)))
    (first | (go_at_call 151; ((with_reducible refine (FL.out _).mono ?_); rintro e w' ⟨rfl, rfl⟩)))
  go_wp2
  go_ret
  exact ⟨_, rfl, Row.drew (RA.out (w.alloc _) w.heap.size (w.heap.size + 1) (by simp) (by omega)), (below_two _ _ _).drew⟩
theorem encG_str (w : World) (t : Int) (m : Bool) (h0 : 0 ≤ t) (h1 : t ≤ 255) (H : Nat) (hH : w.heap.size = H) :
    ∀ dst, Tryd.prog.underlying dst = some .string → (convert 30 dst (.slice (some ⟨H, 0, none⟩) 2 2)).run Tryd.prog (w.alloc (.cells #[.int .u8 t, .int .u8 (if m then 1 else 0)] 5)) = .ok (.string (S (encG t m))) (w.alloc (.cells #[.int .u8 t, .int .u8 (if m then 1 else 0)] 5)) := by
  obtain ⟨A, c, e, hs⟩ := (encG_new w t m h0 h1 H H hH (Nat.le_refl _)).str
  injection e with e1 e2 e3
  subst e1; subst e3
  exact hs
theorem refEncG_any (t : Int) (m : Bool) (w : World) (h0 : 0 ≤ t) (h1 : t ≤ 255) : Calls Tryd.prog 112 #[gv t m] w fun e w' => e = .returned (.string (S (encG t m))) ∧ Below w.heap.size w w' := by
  cases m
  · have hs := encG_str (w.alloc (.cells #[.int .u8 t, .bool false] 89)) t false h0 h1 (w.heap.size + 1) (by simp)
    simp only [Bool.false_eq_true, if_false] at hs
    go_enter Tryd.func112, Tryd.ntmps112
    go_wp2
    go_ret
    exact ⟨rfl, below_two _ _ _⟩
  · have hs := encG_str (w.alloc (.cells #[.int .u8 t, .bool true] 89)) t true h0 h1 (w.heap.size + 1) (by simp)
    simp only [if_true] at hs
    go_enter Tryd.func112, Tryd.ntmps112
    go_wp2
    go_ret
    exact ⟨rfl, below_two _ _ _⟩
end Go.Proofs.YticgmfeihdankaaDoor

/- Globals as plain data; globals.Right; creelref12.Right. -/
namespace Go.Proofs.YticgmfeihdankaaDoor
open Go.RowKit
set_option linter.unusedVariables false
set_option maxRecDepth 100000

/-- A global. -/
structure Gl where
  t : UInt8
  m : Bool
  i : I
/-- Its cells, its labels at A. -/
abbrev glC (x : Gl) (A : Option Addr) (c : Nat) : Array Value := #[.int .u8 x.t.toNat, .bool x.m, .int .u8 x.i.op.toNat, .int .u64 x.i.a, .int .u64 x.i.b, .slice A x.i.l.length c]
abbrev glV (x : Gl) (A : Option Addr) (c : Nat) : Value := .agg (glC x A c)
/-- The zero value's cells. -/
abbrev glZ : Array Value := #[.int .u8 0, .bool false, .int .u8 0, .int .u64 0, .int .u64 0, .slice none 0 0]
abbrev SixG (W : World) (b : Nat) (x : Gl) (A : Option Addr) (c : Nat) : Prop :=
  W.cell? ⟨b, 0, none⟩ = some (.int .u8 x.t.toNat) ∧ W.cell? ⟨b, 1, none⟩ = some (.bool x.m) ∧ W.cell? ⟨b, 2, none⟩ = some (.int .u8 x.i.op.toNat) ∧ W.cell? ⟨b, 3, none⟩ = some (.int .u64 x.i.a) ∧ W.cell? ⟨b, 4, none⟩ = some (.int .u64 x.i.b) ∧ W.cell? ⟨b, 5, none⟩ = some (.slice A x.i.l.length c)
theorem Whole.gl {w : World} {b : Nat} {t : TypeId} {x : Gl} {A : Option Addr} {c : Nat} (h : Whole w b t (glC x A c)) : SixG w b x A c := ⟨h.cell 0, h.cell 1, h.cell 2, h.cell 3, h.cell 4, h.cell 5⟩
theorem put6 {w : World} {b : Nat} {t : TypeId} {x0 x1 x2 x3 x4 x5 u0 u1 u2 u3 u4 u5 : Value} (hb : Whole w b t #[x0, x1, x2, x3, x4, x5]) :
    Whole ((((((w.setCell ⟨b, 0, none⟩ u0).setCell ⟨b, 1, none⟩ u1).setCell ⟨b, 2, none⟩ u2).setCell ⟨b, 3, none⟩ u3).setCell ⟨b, 4, none⟩ u4).setCell ⟨b, 5, none⟩ u5) b t #[u0, u1, u2, u3, u4, u5] ∧
    w.grownBy ((((((w.setCell ⟨b, 0, none⟩ u0).setCell ⟨b, 1, none⟩ u1).setCell ⟨b, 2, none⟩ u2).setCell ⟨b, 3, none⟩ u3).setCell ⟨b, 4, none⟩ u4).setCell ⟨b, 5, none⟩ u5) (some b) :=
  ⟨((((((hb.put 0 u0).put 1 u1).put 2 u2).put 3 u3).put 4 u4).put 5 u5),
   gb_put (p := ⟨b, 5, none⟩) (gb_put (p := ⟨b, 4, none⟩) (gb_put (p := ⟨b, 3, none⟩) (gb_put (p := ⟨b, 2, none⟩) (gb_put (p := ⟨b, 1, none⟩) (gb_put (p := ⟨b, 0, none⟩) (gb_refl w _) (.inl rfl) u0) (.inl rfl) u1) (.inl rfl) u2) (.inl rfl) u3) (.inl rfl) u4) (.inl rfl) u5⟩
/-- A block that holds a global, in a world grown from B: what is held of it. -/
abbrev BxG (B : World) (b : Nat) (x : Gl) (A : Option Addr) (c : Nat) (W : World) : Prop := (Whole W b 103 (glC x A c) ∧ Below B.heap.size B W) ∧ SixG W b x A c
section
variable {B W W' : World} {b : Nat} {x : Gl} {A : Option Addr} {c : Nat}
theorem bxG_on (h : BxG B b x A c W) (hb : Below W.heap.size W W') : BxG B b x A c W' := ⟨⟨h.1.1.below hb, h.1.2.trans (hb.mono h.1.2.size)⟩, (h.1.1.below hb).gl⟩
theorem bxG_start (w : World) (x : Gl) (A : Option Addr) (c : Nat) : BxG w w.heap.size x A c (w.alloc (.cells (glC x A c) 103)) := ⟨⟨Whole.made _ _ _, below_box _ _⟩, (Whole.made w 103 (glC x A c)).gl⟩
theorem bxG_bel (h : BxG B b x A c W) : Below B.heap.size B W := h.1.2
end
/-- May it be? -/
def rG (x : Gl) : Int := if valueZ x.t.toNat ≠ 0 then valueZ x.t.toNat else crightZ x.i
theorem rG_zero {x : Gl} (h : rG x = 0) : valueZ x.t.toNat = 0 ∧ crightZ x.i = 0 := by
  unfold rG at h
  by_cases c1 : valueZ x.t.toNat = 0
  · rw [if_neg (by simpa using c1)] at h
    exact ⟨c1, h⟩
  · rw [if_pos c1] at h; exact absurd h c1
set_option maxHeartbeats 2000000 in
theorem gright_any (x : Gl) (A : Option Addr) (c : Nat) (w : World) (oi : x.i.Ok) (hT : Tabs w) (hl : (x.i.l.length : Int) ≤ 9223372036854775807) :
    Calls Tryd.prog 63 #[glV x A c] w fun e w' => e = .returned (.int .i64 (rG x)) ∧ Below w.heap.size w w' := by
  have H0 := Lib.hid (bxG_start w x A c)
  have HC := Lib.hid (cright_any x.i A c (w.alloc (.cells (glC x A c) 103)) oi (hT.below (below_box w _)) hl)
  have HV := Lib.hid (fun W => value_any (x.t.toNat : Int) W)
  by_cases z1 : valueZ x.t.toNat = 0
  · have hr : rG x = crightZ x.i := by unfold rG; rw [if_neg (by simpa using z1)]
    rw [hr]
    rw [z1] at HV
    clear hr z1 hT oi hl
    go_enter Tryd.func63, Tryd.ntmps63
    go_wp2_with (first
      | (go_at_call 109; go_must ((with_reducible refine (HV.out _).mono ?_); rintro e w' ⟨rfl, rfl⟩))
      | (go_at_call 47; go_must ((with_reducible refine HC.out.mono ?_); rintro e w1 ⟨rfl, hb⟩; have H1 := Lib.hid (bxG_on H0.out hb); clear hb)))
    go_ret
    exact ⟨rfl, bxG_bel H1.out⟩
  · have hr : rG x = valueZ x.t.toNat := by unfold rG; rw [if_pos z1]
    rw [hr]
    have dz : (valueZ x.t.toNat != 0) = true := zb_of (by simpa using z1)
    clear hr z1 hT oi hl
    generalize valueZ x.t.toNat = z at *
    go_enter Tryd.func63, Tryd.ntmps63
    go_wp2_with (go_at_call 109; go_must ((with_reducible refine (HV.out _).mono ?_); rintro e w' ⟨rfl, rfl⟩))
    go_ret
    exact ⟨rfl, bxG_bel H0.out⟩
set_option maxHeartbeats 2000000 in
theorem rgright_any (x : Gl) (A : Option Addr) (c : Nat) (w : World) (oi : x.i.Ok) (hl : (x.i.l.length : Int) ≤ 9223372036854775807) :
    Calls Tryd.prog 61 #[glV x A c] w fun e w' => e = .returned (.int .i64 (rG x)) ∧ Below w.heap.size w w' := by
  have H0 := Lib.hid (bxG_start w x A c)
  have HC := Lib.hid (rcright_any x.i A c (w.alloc (.cells (glC x A c) 103)) oi hl)
  have HV := Lib.hid (fun W => refValue_any (x.t.toNat : Int) W)
  have wt : IntKind.i64.wrap (x.t.toNat : Int) = x.t.toNat := by rw [IntKind.wrap_i64]; have := u8_le x.t; omega
  by_cases z1 : valueZ x.t.toNat = 0
  · have hr : rG x = crightZ x.i := by unfold rG; rw [if_neg (by simpa using z1)]
    rw [hr]
    rw [z1] at HV
    clear hr z1 oi hl
    go_enter Tryd.func61, Tryd.ntmps61
    go_wp2_with (first
      | (go_at_call 85; go_must ((with_reducible refine (HV.out _).mono ?_); rintro e w' ⟨rfl, rfl⟩))
      | (go_at_call 44; go_must ((with_reducible refine HC.out.mono ?_); rintro e w1 ⟨rfl, hb⟩; have H1 := Lib.hid (bxG_on H0.out hb); clear hb)))
    go_ret
    exact ⟨rfl, bxG_bel H1.out⟩
  · have hr : rG x = valueZ x.t.toNat := by unfold rG; rw [if_pos z1]
    rw [hr]
    have dz : (valueZ x.t.toNat != 0) = true := zb_of (by simpa using z1)
    clear hr z1 oi hl
    generalize valueZ x.t.toNat = z at *
    go_enter Tryd.func61, Tryd.ntmps61
    go_wp2_with (go_at_call 85; go_must ((with_reducible refine (HV.out _).mono ?_); rintro e w' ⟨rfl, rfl⟩))
    go_ret
    exact ⟨rfl, bxG_bel H0.out⟩
end Go.Proofs.YticgmfeihdankaaDoor

/- consts.Read of any bytes. -/
namespace Go.Proofs.YticgmfeihdankaaDoor
open Go.RowKit
set_option linter.unusedVariables false
set_option maxRecDepth 100000

/-- How far Read has come: its result's block, the instruction's box, the scanner. -/
structure RdS (w : World) (p : Nat) (l : List UInt8) (H2 : Nat) (i : I) (A : Option Addr) (c k : Nat) (W : World) : Prop where
  res : Whole W w.heap.size 25 #[.int .u8 0, .int .u64 0, .int .u64 0, .slice none 0 0]
  box : Whole W H2 25 (insC i A c)
  sc : Sc W p l k
  gr : w.grownBy W (some p)
  hp : p < w.heap.size
  h2 : w.heap.size < H2
  tb : TbP p W
  ty : LabT W A i.l
  far : ∀ a, A = some a → w.heap.size ≤ a.block
section
variable {w : World} {p : Nat} {l : List UInt8} {H2 : Nat} {i : I} {A : Option Addr} {c k k' : Nat} {W W' : World}
theorem Sc.whole {w : World} {p : Nat} {l : List UInt8} {k : Nat} (h : Sc w p l k) : ∃ cs, Whole w p 117 cs := by
  obtain ⟨A, cap, h1, _⟩ := h
  exact ⟨_, h1⟩
theorem RdS.call (h : RdS w p l H2 i A c k W) (hs : Sc W' p l k') (hg : W.grownBy W' (some p)) : RdS w p l H2 i A c k' W' := by
  have a := h.hp
  have b := h.h2
  obtain ⟨cs, hw⟩ := h.sc.whole
  exact ⟨h.res.grown hg (by simp only [ne_eq, Option.some.injEq]; omega), h.box.grown hg (by simp only [ne_eq, Option.some.injEq]; omega), hs, gb_trans h.gr hg, h.hp, h.h2, h.tb.self hg, h.ty.keep hg (h.ty.apart hw (by decide)), h.far⟩
theorem RdS.below (h : RdS w p l H2 i A c k W) (hb : Below W.heap.size W W') : RdS w p l H2 i A c k W' := h.call (h.sc.below hb) (gb_of_below _ hb)
theorem RdS.fin (h : RdS w p l H2 i A c k W) (W4 : World) (hW : W4 = (((W.setCell ⟨w.heap.size, 0, none⟩ (.int .u8 i.op.toNat)).setCell ⟨w.heap.size, 1, none⟩ (.int .u64 i.a)).setCell ⟨w.heap.size, 2, none⟩ (.int .u64 i.b)).setCell ⟨w.heap.size, 3, none⟩ (.slice A i.l.length c)) :
    Whole W4 w.heap.size 25 (insC i A c) ∧ Gets p l i k w (.returned (insV i A c)) W4 := by
  subst hW
  have a := h.hp
  have b := h.h2
  have hg := gb_put (p := ⟨w.heap.size, 3, none⟩) (gb_put (p := ⟨w.heap.size, 2, none⟩) (gb_put (p := ⟨w.heap.size, 1, none⟩) (gb_put (p := ⟨w.heap.size, 0, none⟩) (gb_refl W (some w.heap.size)) (.inl rfl) (.int .u8 i.op.toNat)) (.inl rfl) (.int .u64 i.a)) (.inl rfl) (.int .u64 i.b)) (.inl rfl) (.slice A i.l.length c)
  have hty := h.ty.keep hg (h.ty.apart h.res (by decide))
  exact ⟨(((h.res.put 0 (.int .u8 i.op.toNat)).put 1 (.int .u64 i.a)).put 2 (.int .u64 i.b)).put 3 (.slice A i.l.length c),
    A, c, rfl, hty.lies, h.far, h.sc.grown hg (by simp only [ne_eq, Option.some.injEq]; omega) (fun g e => by injection e with e; omega), gb_before h.gr hg (fun g e => .inr (by injection e with e; omega)), hty⟩
end
set_option maxHeartbeats 4000000 in
theorem cread_any {w : World} {p : Nat} {l : List UInt8} {k : Nat} (hs : Sc w p l k) (hT : TbP p w) :
    Calls Tryd.prog 51 #[.pointer (some ⟨p, 0, none⟩)] w (GetsR p l (readR l k) w) := by
  have hlt := hs.lt
  have HZ : Hid (Sc (w.alloc (.cells #[.int .u8 0, .int .u64 0, .int .u64 0, .slice none 0 0] 25)) p l k ∧ TbP p (w.alloc (.cells #[.int .u8 0, .int .u64 0, .int .u64 0, .slice none 0 0] 25))) := ⟨hs.alloc _, hT.below (below_box w _) (by omega)⟩
  have hG := getA_any HZ.out.1 HZ.out.2
  have HAT := Lib.hid (at_any HZ.out.1)
  unfold readR
  cases hr : getR l k with
  | err ec ea =>
    rw [hr] at hG
    rw [Res.bind_err]
    show Calls _ _ _ _ (fun e w' => e = .panicked (stopP ec ea) ∧ w.grownBy w' (some p))
    have HG := Lib.hid hG
    clear hs hT hG hr HZ
    go_enter Tryd.func51, Tryd.ntmps51
    go_wp2_with (first
      | (go_at_call 53; go_must ((with_reducible refine HAT.out.mono ?_); rintro e w' ⟨rfl, rfl⟩))
      | (go_at_call 93; go_must ((with_reducible refine HG.out.mono ?_); rintro e w1 ⟨rfl, hg⟩; have HGE := Lib.hid hg; clear hg)))
    exact ⟨rfl, rfl, gb_trans (gb_alloc (gb_refl w _) _) HGE.out⟩
  | ok i k1 =>
    rw [hr] at hG
    rw [Res.bind_ok]
    obtain ⟨oi, hl10, hk1⟩ := getR_ok hr
    have HG := Lib.hid (show Calls Tryd.prog 93 #[.pointer (some ⟨p, 0, none⟩)] (w.alloc (.cells #[.int .u8 0, .int .u64 0, .int .u64 0, .slice none 0 0] 25)) (Gets p l i k1 (w.alloc (.cells #[.int .u8 0, .int .u64 0, .int .u64 0, .slice none 0 0] 25))) from hG)
    have HWM := Lib.hid (Whole.made w 25 #[.int .u8 0, .int .u64 0, .int .u64 0, .slice none 0 0])
    have hstart : ∀ w1 (A : Option Addr) (c : Nat), Sc w1 p l k1 → (w.alloc (.cells #[.int .u8 0, .int .u64 0, .int .u64 0, .slice none 0 0] 25)).grownBy w1 (some p) → LabT w1 A i.l → (∀ a, A = some a → (w.alloc (.cells #[.int .u8 0, .int .u64 0, .int .u64 0, .slice none 0 0] 25)).heap.size ≤ a.block) →
        RdS w p l w1.heap.size i A c k1 (w1.alloc (.cells (insC i A c) 25)) := fun w1 A c hs1 hg1 hty hfar => by
      have hz := hg1.size
      rw [size_box] at hz
      exact ⟨(HWM.out.grown hg1 (by simp only [ne_eq, Option.some.injEq]; omega)).alloc _, Whole.made _ _ _, hs1.alloc _, gb_alloc (gb_trans (gb_alloc (gb_refl w _) _) hg1) _, hlt, by omega, (HZ.out.2.self hg1).below (below_box w1 _) (by omega), hty.keep (gb_of_below none (below_box w1 _)) (fun a e => by simp), fun a ha => by have := hfar a ha; rw [size_box] at this; omega⟩
    have HST := Lib.hid hstart
    have HCR := Lib.hid (fun W (A : Option Addr) (c : Nat) (h : Tabs W) => cright_any i A c W oi h (by omega))
    clear hs hT hG hr hstart hl10 hk1 oi
    obtain ⟨z, hz⟩ : ∃ z, z = crightZ i := ⟨_, rfl⟩
    rw [← hz] at HCR ⊢
    clear hz
    by_cases h0 : z = 0
    · subst h0
      rw [if_pos rfl]
      have hB := fun W (h : Sc W p l k1) => byte_any h
      have HA1 := Lib.hid (fun W (h : Sc W p l k1) => at_any h)
      cases hb : byteR l k1 with
      | err ec ea =>
        rw [Res.bind_err]
        show Calls _ _ _ _ (fun e w' => e = .panicked (stopP ec ea) ∧ w.grownBy w' (some p))
        have HB := Lib.hid (fun W (h : Sc W p l k1) => show Calls Tryd.prog 102 #[.pointer (some ⟨p, 0, none⟩)] W (Did encB p l W (.err ec ea)) from by have := hB W h; rw [hb] at this; exact this)
        clear hB hb HZ
        go_enter Tryd.func51, Tryd.ntmps51
        go_wp2_with (first
          | (have tok := HG2; go_at_call 53; go_must ((with_reducible refine (HA1.out _ HG2.out.sc).mono ?_); rintro e w' ⟨rfl, rfl⟩))
          | (go_at_call 53; go_must ((with_reducible refine HAT.out.mono ?_); rintro e w' ⟨rfl, rfl⟩))
          | (go_at_call 93; go_must ((with_reducible refine HG.out.mono ?_); intro e w1 hq; obtain ⟨A, c, rfl, hla, hfar, hs, hg, hty⟩ := hq; have HG1 := Lib.hid (HST.out w1 A c hs hg hty hfar); have c0 := HG1.out.box.cell 0; have c1 := HG1.out.box.cell 1; have c2 := HG1.out.box.cell 2; have c3 := HG1.out.box.cell 3; simp only [List.getElem?_toArray, List.getElem?_cons_zero, List.getElem?_cons_succ] at c0 c1 c2 c3; clear hla hfar hs hg hty))
          | (go_at_call 47; go_must ((with_reducible refine (HCR.out _ _ _ HG1.out.tb.tabs).mono ?_); rintro e w2 ⟨rfl, hb2⟩; have HG2 := Lib.hid (HG1.out.below hb2); clear hb2))
          | (go_at_call 101; go_must ((with_reducible refine (unlessT _ _ _).mono ?_); rintro e w' ⟨rfl, rfl⟩))
          | (go_at_call 102; go_must ((with_reducible refine (HB.out _ HG2.out.sc).mono ?_); rintro e w3 ⟨rfl, hg⟩; have HGE := Lib.hid hg; clear hg)))
        exact ⟨rfl, rfl, gb_trans HG2.out.gr HGE.out⟩
      | ok d k2 =>
        rw [Res.bind_ok]
        have HB := Lib.hid (fun W (h : Sc W p l k1) => show Calls Tryd.prog 102 #[.pointer (some ⟨p, 0, none⟩)] W (Did encB p l W (.ok d k2)) from by have := hB W h; rw [hb] at this; exact this)
        clear hB hb HZ
        by_cases hd : d = 11
        · rw [if_pos hd]
          show Calls _ _ _ _ (Gets p l i k2 w)
          have dd : ((d.toNat : Int) == 11) = true := by rw [hd]; rfl
          clear hd
          go_enter Tryd.func51, Tryd.ntmps51
          go_wp2_with (first
            | (have tok := HG2; go_at_call 53; go_must ((with_reducible refine (HA1.out _ HG2.out.sc).mono ?_); rintro e w' ⟨rfl, rfl⟩))
            | (go_at_call 53; go_must ((with_reducible refine HAT.out.mono ?_); rintro e w' ⟨rfl, rfl⟩))
            | (go_at_call 93; go_must ((with_reducible refine HG.out.mono ?_); intro e w1 hq; obtain ⟨A, c, rfl, hla, hfar, hs, hg, hty⟩ := hq; have HG1 := Lib.hid (HST.out w1 A c hs hg hty hfar); have c0 := HG1.out.box.cell 0; have c1 := HG1.out.box.cell 1; have c2 := HG1.out.box.cell 2; have c3 := HG1.out.box.cell 3; have hh := HG1.out.h2; have n1 : ¬ w1.heap.size = w.heap.size := (by omega); have n2 : ¬ w.heap.size = w1.heap.size := (by omega); simp only [List.getElem?_toArray, List.getElem?_cons_zero, List.getElem?_cons_succ] at c0 c1 c2 c3; clear hla hfar hs hg hty hh))
            | (go_at_call 47; go_must ((with_reducible refine (HCR.out _ _ _ HG1.out.tb.tabs).mono ?_); rintro e w2 ⟨rfl, hb2⟩; have HG2 := Lib.hid (HG1.out.below hb2); clear hb2 c0 c1 c2 c3))
            | (go_at_call 101; go_must ((with_reducible refine (unlessT _ _ _).mono ?_); rintro e w' ⟨rfl, rfl⟩))
            | (go_at_call 102; go_must ((with_reducible refine (HB.out _ HG2.out.sc).mono ?_); rintro e w3 ⟨rfl, hs, hg⟩; have HG3 := Lib.hid (HG2.out.call hs hg); have c0 := HG3.out.box.cell 0; have c1 := HG3.out.box.cell 1; have c2 := HG3.out.box.cell 2; have c3 := HG3.out.box.cell 3; have r0 := HG3.out.res.cell 0; have r1 := HG3.out.res.cell 1; have r2 := HG3.out.res.cell 2; have r3 := HG3.out.res.cell 3; have z0 := HG3.out.res.frozen 0; have z1 := HG3.out.res.frozen 1; have z2 := HG3.out.res.frozen 2; have z3 := HG3.out.res.frozen 3; simp only [List.getElem?_toArray, List.getElem?_cons_zero, List.getElem?_cons_succ] at c0 c1 c2 c3 r0 r1 r2 r3; clear hs hg)))
          obtain ⟨q4, hf⟩ := HG3.out.fin _ rfl
          have q0 := q4.cell 0
          have q1 := q4.cell 1
          have q2 := q4.cell 2
          have q3 := q4.cell 3
          simp only [List.getElem?_toArray, List.getElem?_cons_zero, List.getElem?_cons_succ] at q0 q1 q2 q3
          exact bodyPost_ret (v := insV i A c) (by simp [results, Tryd.results51, go_sem, q0, q1, q2, q3]) rfl hf
        · rw [if_neg hd]
          show Calls _ _ _ _ (fun e w' => e = .panicked (stopP 12 k1) ∧ w.grownBy w' (some p))
          have dd : ((d.toNat : Int) == 11) = false := by
            have : d.toNat ≠ 11 := fun e => hd (UInt8.toNat_inj.1 (by rw [e]; rfl))
            simp; omega
          clear hd
          go_enter Tryd.func51, Tryd.ntmps51
          go_wp2_with (first
            | (have tok := HG2; go_at_call 53; go_must ((with_reducible refine (HA1.out _ HG2.out.sc).mono ?_); rintro e w' ⟨rfl, rfl⟩))
            | (go_at_call 53; go_must ((with_reducible refine HAT.out.mono ?_); rintro e w' ⟨rfl, rfl⟩))
            | (go_at_call 93; go_must ((with_reducible refine HG.out.mono ?_); intro e w1 hq; obtain ⟨A, c, rfl, hla, hfar, hs, hg, hty⟩ := hq; have HG1 := Lib.hid (HST.out w1 A c hs hg hty hfar); have c0 := HG1.out.box.cell 0; have c1 := HG1.out.box.cell 1; have c2 := HG1.out.box.cell 2; have c3 := HG1.out.box.cell 3; simp only [List.getElem?_toArray, List.getElem?_cons_zero, List.getElem?_cons_succ] at c0 c1 c2 c3; clear hla hfar hs hg hty))
            | (go_at_call 47; go_must ((with_reducible refine (HCR.out _ _ _ HG1.out.tb.tabs).mono ?_); rintro e w2 ⟨rfl, hb2⟩; have HG2 := Lib.hid (HG1.out.below hb2); clear hb2))
            | (have tok := HG3; go_at_call 101; go_must ((with_reducible refine (unlessF _ _ _).mono ?_); rintro e w' ⟨rfl, rfl⟩))
            | (go_at_call 101; go_must ((with_reducible refine (unlessT _ _ _).mono ?_); rintro e w' ⟨rfl, rfl⟩))
            | (go_at_call 102; go_must ((with_reducible refine (HB.out _ HG2.out.sc).mono ?_); rintro e w3 ⟨rfl, hs, hg⟩; have HG3 := Lib.hid (HG2.out.call hs hg); clear hs hg)))
          exact ⟨rfl, rfl, HG3.out.gr⟩
    · rw [if_neg h0]
      show Calls _ _ _ _ (fun e w' => e = .panicked (stopP z k) ∧ w.grownBy w' (some p))
      have dz : (z == 0) = false := by simpa using h0
      clear h0 HZ
      go_enter Tryd.func51, Tryd.ntmps51
      go_wp2_with (first
        | (go_at_call 53; go_must ((with_reducible refine HAT.out.mono ?_); rintro e w' ⟨rfl, rfl⟩))
        | (go_at_call 93; go_must ((with_reducible refine HG.out.mono ?_); intro e w1 hq; obtain ⟨A, c, rfl, hla, hfar, hs, hg, hty⟩ := hq; have HG1 := Lib.hid (HST.out w1 A c hs hg hty hfar); have c0 := HG1.out.box.cell 0; have c1 := HG1.out.box.cell 1; have c2 := HG1.out.box.cell 2; have c3 := HG1.out.box.cell 3; simp only [List.getElem?_toArray, List.getElem?_cons_zero, List.getElem?_cons_succ] at c0 c1 c2 c3; clear hla hfar hs hg hty))
        | (go_at_call 47; go_must ((with_reducible refine (HCR.out _ _ _ HG1.out.tb.tabs).mono ?_); rintro e w2 ⟨rfl, hb2⟩; have HG2 := Lib.hid (HG1.out.below hb2); clear hb2))
        | (go_at_call 101; go_must ((with_reducible refine (unlessF _ _ _).mono ?_); rintro e w' ⟨rfl, rfl⟩)))
      exact ⟨rfl, rfl, HG2.out.gr⟩
end Go.Proofs.YticgmfeihdankaaDoor

/- globals.Get of any bytes. -/
namespace Go.Proofs.YticgmfeihdankaaDoor
open Go.RowKit
set_option linter.unusedVariables false
set_option maxRecDepth 100000

/-- A global. -/
noncomputable def gR (l : List UInt8) (k : Nat) : Res Gl := (globR l k).bind fun t k1 => (readR l k1).bind fun i k2 => .ok ⟨t.1, t.2, i⟩ k2
/-- What Get leaves behind. -/
def GotR (p : Nat) (l : List UInt8) (r : Res Gl) (w : World) (e : Ending) (w' : World) : Prop := match r with
  | .ok x k => ∃ A c, e = .returned (glV x A c) ∧ Sc w' p l k ∧ w.grownBy w' (some p)
  | .err c a => e = .panicked (stopP c a) ∧ w.grownBy w' (some p)
/-- Get once the type is read: the result's block, the type's box; what the reader at q turns. -/
structure GBG (w : World) (q bt : Nat) (t : UInt8) (m : Bool) (W : World) : Prop where
  res : Whole W w.heap.size 103 glZ
  bx : Whole W bt 89 #[.int .u8 t.toNat, .bool m]
  gr : w.grownBy W (some q)
  hp : q < w.heap.size
  lt : w.heap.size < bt
section
variable {w W W' : World} {q bt : Nat} {t : UInt8} {m : Bool}
theorem GBG.call (h : GBG w q bt t m W) (hg : W.grownBy W' (some q)) : GBG w q bt t m W' := by
  have a := h.hp
  have b := h.lt
  exact ⟨h.res.grown hg (by simp only [ne_eq, Option.some.injEq]; omega), h.bx.grown hg (by simp only [ne_eq, Option.some.injEq]; omega), gb_trans h.gr hg, a, b⟩
theorem GBG.start {w w1 : World} (hp : q < w.heap.size) (hg : (w.alloc (.cells glZ 103)).grownBy w1 (some q)) : GBG w q w1.heap.size t m (w1.alloc (.cells #[.int .u8 t.toNat, .bool m] 89)) := by
  have hz := hg.size
  rw [size_box] at hz
  exact ⟨((Whole.made w _ _).grown hg (by simp only [ne_eq, Option.some.injEq]; omega)).alloc _, Whole.made _ _ _, gb_alloc (gb_trans (gb_alloc (gb_refl w _) _) hg) _, hp, by omega⟩
theorem GBG.fin {x0 x1 x2 x3 x4 x5 : Value} (h : GBG w q bt t m W) :
    Whole ((((((W.setCell ⟨w.heap.size, 0, none⟩ x0).setCell ⟨w.heap.size, 1, none⟩ x1).setCell ⟨w.heap.size, 2, none⟩ x2).setCell ⟨w.heap.size, 3, none⟩ x3).setCell ⟨w.heap.size, 4, none⟩ x4).setCell ⟨w.heap.size, 5, none⟩ x5) w.heap.size 103 #[x0, x1, x2, x3, x4, x5] ∧
    W.grownBy ((((((W.setCell ⟨w.heap.size, 0, none⟩ x0).setCell ⟨w.heap.size, 1, none⟩ x1).setCell ⟨w.heap.size, 2, none⟩ x2).setCell ⟨w.heap.size, 3, none⟩ x3).setCell ⟨w.heap.size, 4, none⟩ x4).setCell ⟨w.heap.size, 5, none⟩ x5) (some w.heap.size) ∧
    w.grownBy ((((((W.setCell ⟨w.heap.size, 0, none⟩ x0).setCell ⟨w.heap.size, 1, none⟩ x1).setCell ⟨w.heap.size, 2, none⟩ x2).setCell ⟨w.heap.size, 3, none⟩ x3).setCell ⟨w.heap.size, 4, none⟩ x4).setCell ⟨w.heap.size, 5, none⟩ x5) (some q) := by
  obtain ⟨h1, h2⟩ := put6 (u0 := x0) (u1 := x1) (u2 := x2) (u3 := x3) (u4 := x4) (u5 := x5) h.res
  have := h.hp
  exact ⟨h1, h2, gb_before h.gr h2 (fun g e => .inr (by injection e with e; omega))⟩
end
set_option maxHeartbeats 4000000 in
theorem get_gl {w : World} {p : Nat} {l : List UInt8} {k : Nat} (h : Sc w p l k) (hT : TbP p w) :
    Calls Tryd.prog 66 #[.pointer (some ⟨p, 0, none⟩)] w (GotR p l (gR l k) w) := by
  have hp := h.lt
  have hG := global_scan (h.alloc (.cells glZ 103))
  have HT0 := Lib.hid (hT.below (below_box w (.cells glZ 103)) (Nat.le_of_lt hp))
  have HWM := Lib.hid (Whole.made w 103 glZ)
  unfold gR
  cases h1 : globR l k with
  | err c a =>
    rw [h1] at hG
    rw [Res.bind_err]
    have HG := Lib.hid hG
    clear hG h1 h hT
    go_enter Tryd.func66, Tryd.ntmps66
    go_wp2_with (go_at_call 111; go_must ((with_reducible refine HG.out.mono ?_); rintro e w1 ⟨rfl, hg⟩; have HG1 := Lib.hid hg; clear hg))
    exact ⟨rfl, rfl, gb_trans (gb_alloc (gb_refl w _) _) HG1.out⟩
  | ok t k1 =>
    rw [h1] at hG
    rw [Res.bind_ok]
    obtain ⟨t, m⟩ := t
    have HG := Lib.hid (show Calls Tryd.prog 111 #[.pointer (some ⟨p, 0, none⟩)] (w.alloc (.cells glZ 103)) (fun e w' => e = .returned (.agg #[.int .u8 t.toNat, .bool m]) ∧ Sc w' p l k1 ∧ (w.alloc (.cells glZ 103)).grownBy w' (some p)) from hG)
    clear hG h1 h hT
    have hC := fun W (hs : Sc W p l k1) (ht : TbP p W) => cread_any hs ht
    cases h2 : readR l k1 with
    | err c a =>
      rw [h2] at hC
      rw [Res.bind_err]
      have HC := Lib.hid (fun W (hs : Sc W p l k1) (ht : TbP p W) => show Calls Tryd.prog 51 #[.pointer (some ⟨p, 0, none⟩)] W (fun e w' => e = .panicked (stopP c a) ∧ W.grownBy w' (some p)) from hC W hs ht)
      clear hC h2
      go_enter Tryd.func66, Tryd.ntmps66
      go_wp2_with (go_at_call 111; go_must ((with_reducible refine HG.out.mono ?_); rintro e w1 ⟨rfl, hs, hg⟩; have HGB := Lib.hid (GBG.start (t := t) (m := m) hp hg); have HS1 := Lib.hid (hs.alloc (.cells #[.int .u8 t.toNat, .bool m] 89)); have HT1 := Lib.hid ((HT0.out.self hg).below (below_box w1 (.cells #[.int .u8 t.toNat, .bool m] 89)) (Nat.le_of_lt hs.lt)); clear hs hg))
      generalize w1.alloc (.cells #[.int .u8 t.toNat, .bool m] 89) = W at *
      generalize w1.heap.size = bt at *
      have x0 := HGB.out.bx.cell 0
      have x1 := HGB.out.bx.cell 1
      simp only [List.getElem?_toArray, List.getElem?_cons_zero, List.getElem?_cons_succ] at x0 x1
      have HC2 := Lib.hid (HC.out _ (show Sc W.drew p l k1 from HS1.out) (show TbP p W.drew from HT1.out.self (gb_drew (gb_refl _ _))))
      refine wp_region_held_drew (S := fun W' => W'.cell? ⟨bt, 0, none⟩ = some (.int .u8 t.toNat) ∧ W'.cell? ⟨bt, 1, none⟩ = some (.bool m)) (by kernel_rfl) ⟨x0, x1⟩ (fun hHeld => ?_)
      (refine wpAnyH_take (i := 0) (oi := { dst := some 6, op := Op.load 89 (Operand.tmp 3), type := 89, pos := "globals.go:32", after := #[], guard := none }) (v := ?_) rfl (by kernel_rfl) (by kernel_rfl) (by kernel_rfl) (fun _ _ _ h => h) ?_ (by assumption) ?_; rotate_left; focus (refine .inl ⟨by kernel_rfl, ?_⟩; intro w hSw; (try dsimp only at hSw); go_simp; (try with_reducible rfl)); (try simp only [Act.put, List.setIfInBounds_toArray, List.set_cons_zero, List.set_cons_succ]))
      (refine wpAnyH_take (i := 1) (oi := { dst := some 7, op := Op.move (Operand.tmp 0), type := 35, pos := "globals.go:32", after := #[], guard := none }) (v := ?_) rfl (by kernel_rfl) (by kernel_rfl) (by kernel_rfl) (fun _ _ _ h => h) ?_ (by assumption) ?_; rotate_left; focus (refine .inl ⟨by kernel_rfl, ?_⟩; intro w hSw; (try dsimp only at hSw); go_simp; (try with_reducible rfl)); (try simp only [Act.put, List.setIfInBounds_toArray, List.set_cons_zero, List.set_cons_succ]))
      refine wpAnyH_ready (rs := [2]) (by kernel_rfl) (by simp) ?_
      refine AllReadyH.cons (o := { dst := some 8, op := Op.call { callee := Callee.value (Operand.func 51), args := #[Operand.tmp 7], argTypes := #[35] }, type := 25, pos := "globals.go:32", after := #[{ on := 1, ground := Ground.data }], guard := none }) rfl (fun K hK => ?_) AllReadyH.nil
      go_simp
      (go_at_call 51; (with_reducible refine HC2.out.mono ?_); rintro e w2 ⟨rfl, hg⟩; exact ⟨rfl, rfl, gb_trans (gb_drew HGB.out.gr) hg⟩)
    | ok i k2 =>
      rw [h2] at hC
      rw [Res.bind_ok]
      have HC := Lib.hid (fun W (hs : Sc W p l k1) (ht : TbP p W) => show Calls Tryd.prog 51 #[.pointer (some ⟨p, 0, none⟩)] W (Gets p l i k2 W) from hC W hs ht)
      clear hC h2
      go_enter Tryd.func66, Tryd.ntmps66
      go_wp2_with (go_at_call 111; go_must ((with_reducible refine HG.out.mono ?_); rintro e w1 ⟨rfl, hs, hg⟩; have HGB := Lib.hid (GBG.start (t := t) (m := m) hp hg); have HS1 := Lib.hid (hs.alloc (.cells #[.int .u8 t.toNat, .bool m] 89)); have HT1 := Lib.hid ((HT0.out.self hg).below (below_box w1 (.cells #[.int .u8 t.toNat, .bool m] 89)) (Nat.le_of_lt hs.lt)); clear hs hg))
      generalize w1.alloc (.cells #[.int .u8 t.toNat, .bool m] 89) = W at *
      generalize w1.heap.size = bt at *
      have HC2 := Lib.hid (HC.out _ (show Sc W.drew p l k1 from HS1.out) (show TbP p W.drew from HT1.out.self (gb_drew (gb_refl _ _))))
      have HGD := Lib.hid (HGB.out.call (gb_drew (gb_refl W _)))
      have x0 := HGB.out.bx.cell 0
      have x1 := HGB.out.bx.cell 1
      simp only [List.getElem?_toArray, List.getElem?_cons_zero, List.getElem?_cons_succ] at x0 x1
      clear HC HS1 HT1 HGB HG HT0
      go_region_with (go_at_call 51; (with_reducible refine HC2.out.mono ?_); intro e w2 hq; obtain ⟨A, c, rfl, _, _, hs, hg, _⟩ := hq; have HS2 := Lib.hid hs; have HG2 := Lib.hid (HGD.out.call hg); have y0 := HG2.out.bx.cell 0; have y1 := HG2.out.bx.cell 1; simp only [List.getElem?_toArray, List.getElem?_cons_zero, List.getElem?_cons_succ] at y0 y1; have f0 := HG2.out.res.frozen 0; have f1 := HG2.out.res.frozen 1; have f2 := HG2.out.res.frozen 2; have f3 := HG2.out.res.frozen 3; have f4 := HG2.out.res.frozen 4; have f5 := HG2.out.res.frozen 5; have z0 := HG2.out.res.cell 0; have z1 := HG2.out.res.cell 1; have z2 := HG2.out.res.cell 2; have z3 := HG2.out.res.cell 3; have z4 := HG2.out.res.cell 4; have z5 := HG2.out.res.cell 5; simp only [List.getElem?_toArray, List.getElem?_cons_zero, List.getElem?_cons_succ] at z0 z1 z2 z3 z4 z5; clear hs hg)
      all_goals
        go_wp2
        obtain ⟨h1, h2, h3⟩ := GBG.fin (x0 := .int .u8 t.toNat) (x1 := .bool m) (x2 := .int .u8 i.op.toNat) (x3 := .int .u64 i.a) (x4 := .int .u64 i.b) (x5 := .slice A i.l.length c) HG2.out
        obtain ⟨q0, q1, q2, q3, q4, q5⟩ := Whole.gl (x := ⟨t, m, i⟩) h1
        have hs3 := HS2.out.grown h2 (by have := HG2.out.hp; simp only [ne_eq, Option.some.injEq]; omega) (fun g e => by have := HG2.out.hp; injection e with e; omega)
        exact bodyPost_ret (v := glV ⟨t, m, i⟩ A c) (by simp [results, Tryd.results66, go_sem, q0, q1, q2, q3, q4, q5]) rfl ⟨A, c, rfl, hs3, h3⟩
end Go.Proofs.YticgmfeihdankaaDoor

/- The reference's Global and creelref12.Get, whatever the reader's state. (By gen/genRefG.py.) -/
namespace Go.Proofs.YticgmfeihdankaaDoor
open Go.RowKit
set_option linter.unusedVariables false
set_option maxRecDepth 100000

/-- A global's type; behind an error the zero value. -/
def GlobP (q : Nat) (l : List UInt8) (r : Res (UInt8 × Bool)) (w : World) (e : Ending) (w' : World) : Prop :=
  ∃ v : UInt8 × Bool, e = .returned (encGl v) ∧ Rs w' q l (stOf r) ∧ (∀ y k, r = .ok y k → v = y) ∧ w.grownBy w' (some q)
/-- What creelref12.Get leaves behind. -/
def RGotG (q : Nat) (l : List UInt8) (r : Res Gl) (w : World) (e : Ending) (w' : World) : Prop :=
  ∃ (x : Gl) (A : Option Addr) (c : Nat), e = .returned (glV x A c) ∧ Rs w' q l (stOf r) ∧ (∀ y k, r = .ok y k → x = y) ∧ w.grownBy w' (some q)
end Go.Proofs.YticgmfeihdankaaDoor

/- globals.Put; creelref12.Count, Put. -/
namespace Go.Proofs.YticgmfeihdankaaDoor
open Go.RowKit
set_option linter.unusedVariables false
set_option maxRecDepth 100000

noncomputable def gputL (x : Gl) : List UInt8 := encG x.t.toNat x.m ++ cputL x.i
theorem gputL_len {x : Gl} (h : x.i.Ok) (h0 : rG x = 0) : 3 ≤ (gputL x).length ∧ (gputL x).length ≤ 34 := by
  have h1 := cputL_len h (rG_zero h0).2
  have h2 : (encG x.t.toNat x.m).length = 2 := rfl
  unfold gputL
  rw [List.length_append]
  omega
/-- What Put hands back. -/
def PuttedG (x : Gl) (w : World) (e : Ending) (w' : World) : Prop := ∃ v, e = .returned (.tuple #[v, .int .i64 (rG x)]) ∧ Row w' w.heap.size v (if rG x = 0 then gputL x else []) ∧ Below w.heap.size w w'
set_option maxHeartbeats 8000000 in
theorem put_gl (x : Gl) (A : Option Addr) (c : Nat) (w : World) (oi : x.i.Ok) (hT : Tabs w) (hl : (x.i.l.length : Int) ≤ 9223372036854775807) :
    Calls Tryd.prog 62 #[glV x A c] w (PuttedG x w) := by
  have H0 := Lib.hid (bxG_start w x A c)
  have HR := Lib.hid (gright_any x A c _ oi (hT.below (below_box w (.cells (glC x A c) 103))) hl)
  unfold PuttedG
  by_cases h0 : rG x = 0
  · rw [if_pos h0]
    have hz := (rG_zero h0).2
    have hcl := cputL_len oi hz
    have hsp : gputL x = encG x.t.toNat x.m ++ cputL x.i := rfl
    have HP := Lib.hid (fun W (hb : Below w.heap.size w W) => show Calls Tryd.prog 45 #[insV x.i A c] W fun e w' => ∃ v, e = .returned (.tuple #[v, .int .i64 0]) ∧ Row w' W.heap.size v (cputL x.i) ∧ Below W.heap.size W w' from
      (cput2_any x.i A c W oi (hT.below hb) hz).mono fun e w' ⟨v, h1, h2, h3⟩ => ⟨v, by rw [hz] at h1; exact h1, by rw [if_pos hz] at h2; exact h2, h3⟩)
    have HE := Lib.hid (fun W => encG_any x.t.toNat x.m W (by omega) (u8_le _))
    have he2 : (encG x.t.toNat x.m).length = 2 := rfl
    rw [h0] at HR ⊢
    rw [hsp]
    generalize cputL x.i = y at *
    generalize encG (x.t.toNat : Int) x.m = g at *
    have hgy : g.length + y.length ≤ 1000000 := by omega
    clear hz hcl hsp hT h0 oi hl
    go_enter Tryd.func62, Tryd.ntmps62
    go_wp2_with (first
      | (go_at_call 63; go_must ((with_reducible refine HR.out.mono ?_); rintro e w1 ⟨rfl, hb⟩; have H1 := Lib.hid (bxG_on H0.out hb); obtain ⟨c0, c1, c2, c3, c4, c5⟩ := H1.out.2; clear hb))
      | (go_at_call 45; go_must ((with_reducible refine (HP.out _ (bxG_bel H1.out)).mono ?_); intro e w2 hq; obtain ⟨v, rfl, hr, hb⟩ := hq; clear c0 c1 c2 c3 c4 c5; obtain ⟨A2, cp2, rfl, hpc⟩ := hr.pc; have HP2 := Lib.hid hpc; have H2 := Lib.hid (bxG_on H1.out hb); obtain ⟨c0, c1, c2, c3, c4, c5⟩ := H2.out.2; clear hb hr hpc))
      | (go_at_call 108; go_must ((with_reducible refine (HE.out _).mono ?_); intro e w3 hq; obtain ⟨v3, rfl, hr, hb⟩ := hq; have H3 := Lib.hid (bxG_on H2.out hb); have HP3 := Lib.hid (HP2.out.below hb); have HR3 := Lib.hid hr; have hz3 := hb.size; clear hb hr c0 c1 c2 c3 c4 c5))
      | (at_builtin; (refine row_any rfl _ _ rfl w2.heap.size _ g rfl HR3.out A2 y.length cp2 _ y rfl rfl HP3.out.lies HP3.out.nil hgy hz3 ?_; intro v4 w4 hr4 hb4; have HR4 := Lib.hid hr4; have HB4 := Lib.hid hb4; clear hr4 hb4)))
    go_ret2
    exact ⟨_, rfl, HR4.out.mono (bxG_bel H2.out).size, (bxG_bel H3.out).trans (HB4.out.mono (bxG_bel H2.out).size)⟩
  · rw [if_neg h0]
    have d0 : (rG x != 0) = true := zb_of (by simpa using h0)
    obtain ⟨z, hz⟩ : ∃ z, z = rG x := ⟨_, rfl⟩
    rw [← hz] at HR d0 ⊢
    clear h0 hz hT oi hl
    go_enter Tryd.func62, Tryd.ntmps62
    go_wp2_with (go_at_call 63; go_must ((with_reducible refine HR.out.mono ?_); rintro e w1 ⟨rfl, hb⟩; have H1 := Lib.hid (bxG_on H0.out hb); clear hb))
    go_ret2
    exact ⟨_, rfl, Row.nil _ _, bxG_bel H1.out⟩
set_option maxHeartbeats 8000000 in
theorem rput_gl (x : Gl) (A : Option Addr) (c : Nat) (w : World) (oi : x.i.Ok) (h0 : rG x = 0) :
    Calls Tryd.prog 67 #[glV x A c] w fun e w' => e = .returned (.string (S (gputL x))) ∧ Below w.heap.size w w' := by
  have hz := (rG_zero h0).2
  have H0 := Lib.hid (bxG_start w x A c)
  have hcl := cputL_len oi hz
  have HE := Lib.hid (fun W => refEncG_any x.t.toNat x.m W (by omega) (u8_le _))
  have HP := Lib.hid (fun W => show Calls Tryd.prog 48 #[insV x.i A c] W fun e w' => e = .returned (.string (S (cputL x.i))) ∧ Below W.heap.size W w' from rcput_any x.i A c W oi (cr_zero hz).1 (by rw [cz_nil hz]; intro j v hv; simp [cells32] at hv))
  have he2 : (encG x.t.toNat x.m).length = 2 := rfl
  have hsp : gputL x = encG x.t.toNat x.m ++ cputL x.i := rfl
  rw [hsp]
  generalize cputL x.i = y at *
  generalize encG (x.t.toNat : Int) x.m = g at *
  have sg := S_size g
  have sy := S_size y
  have q1 : ¬ 9223372036854775807 < (S g).size + (S y).size := by omega
  have HSA := Lib.hid (S_append g y)
  clear hz hcl hsp h0 oi sg sy he2
  go_enter Tryd.func67, Tryd.ntmps67
  go_wp2
  go_region_held3 (fun W => BxG w w.heap.size x A c W) (first | assumption | exact bxG_on H0.out (Below.refl _ _).drew)
    (first
      | (go_at_call 112; (with_reducible refine (HE.out _).mono ?_); rintro e w1 ⟨rfl, hb⟩; have hk1 := bxG_on ‹_› hb; clear hb)
      | (go_at_call 48; (with_reducible refine (HP.out _).mono ?_); rintro e w2 ⟨rfl, hb⟩; have hk2 := bxG_on ‹_› hb; clear hb))
  go_wp2
  go_ret
  exact ⟨by rw [← HSA.out]; rfl, bxG_bel hk2⟩
end Go.Proofs.YticgmfeihdankaaDoor

/- Globals that lie somewhere; rows of globals of the call's own. -/
namespace Go.Proofs.YticgmfeihdankaaDoor
open Go.RowKit
set_option linter.unusedVariables false
set_option maxRecDepth 100000

/-- A global and where its labels lie. -/
abbrev SlotG := Gl × Option Addr × Nat
abbrev sC (x : SlotG) : Array Value := glC x.1 x.2.1 x.2.2
abbrev sV (x : SlotG) : Value := .agg (sC x)
def sL (x : SlotG) : List Value := (sC x).toList
theorem infoGl : (Tryd.prog.info? 103).map (fun i => (i.zero, i.size, i.bytes)) = some (some (.agg glZ), 6, 56) := by kernel_rfl
/-- A row of globals of the call's own. -/
def RowG (W : World) (base : Nat) (v : Value) (rows : List SlotG) : Prop := W.ownsRow base 103 6 v rows.length (rows.flatMap sL)
theorem RowG.nil (W : World) (base : Nat) : RowG W base (.slice none 0 0) [] := World.ownsRow_nil W base _ 6
theorem RowG.slice {W : World} {base : Nat} {v : Value} {rows : List SlotG} (h : RowG W base v rows) : ∃ A c, v = .slice A rows.length c := by
  rcases h.2 with ⟨rfl, h0⟩ | ⟨g, cap, cur, rfl, _⟩
  · exact ⟨none, 0, by rw [h0]⟩
  · exact ⟨_, cap, rfl⟩
theorem RowG.past {W W' : World} {base b : Nat} {v : Value} {rows : List SlotG} (h : RowG W base v rows) (hg : W.grownBy W' (some b)) (hb : b < base) : RowG W' base v rows :=
  World.ownsRow.kept h hg (by
    cases hv : v.ownBlock with
    | none => exact .inl rfl
    | some k => exact .inr (by have := (World.ownsRow.lt h k hv).1; simp only [ne_eq, Option.some.injEq]; omega))
theorem RowG.later {W W' : World} {base : Nat} {v : Value} {rows : List SlotG} (h : RowG W base v rows) (hb : Below W.heap.size W W') : RowG W' base v rows :=
  World.ownsRow.kept h (gb_of_below none hb) (by cases v.ownBlock with
    | none => exact .inl rfl
    | some k => exact .inr (by simp))
theorem RowG.alloc {W : World} {base : Nat} {v : Value} {rows : List SlotG} (h : RowG W base v rows) (o : Obj) : RowG (W.alloc o) base v rows := World.ownsRow.alloc h o
theorem RowG.mono {W : World} {base base' : Nat} {v : Value} {rows : List SlotG} (h : RowG W base v rows) (hb : base' ≤ base) : RowG W base' v rows := by
  obtain ⟨h1, h2⟩ := h
  refine ⟨h1, ?_⟩
  rcases h2 with h2 | ⟨g, cap, cur, e, hg, r⟩
  · exact .inl h2
  · exact .inr ⟨g, cap, cur, e, Nat.le_trans hb hg, r⟩
/-- Nothing old has turned, and nothing of the row's own is lost. -/
theorem RowG.below {w W W' : World} {base : Nat} {v : Value} {rows : List SlotG} (h : RowG W base v rows) (hB : base ≤ W.heap.size) (hg : W.grownBy W' v.ownBlock) : Below base W W' :=
  Below.grown (Below.refl _ _) hg hB (fun k hk => (World.ownsRow.lt h k hk).1)

/-- The slice at A reads as these globals. -/
def Gs (w : World) (A : Option Addr) (l : List SlotG) : Prop :=
  ∀ j x, l[j]? = some x → ∃ b off, A = some ⟨b, off, none⟩ ∧ b < w.heap.size ∧ ∀ u, u < 6 → w.cell? ⟨b, off + j * 6 + u, none⟩ = (sL x)[u]?
theorem Gs.below {w w' : World} {A : Option Addr} {l : List SlotG} (h : Gs w A l) (hb : Below w.heap.size w w') : Gs w' A l := fun j x hx => by
  obtain ⟨b, off, e, h1, h2⟩ := h j x hx
  exact ⟨b, off, e, Nat.lt_of_lt_of_le h1 hb.size, fun u hu => (hb.cell (p := ⟨b, _, none⟩) h1).trans (h2 u hu)⟩
/-- The six cells of one of them, as a walk writes them. -/
abbrev SixAt (w : World) (b : Nat) (o : Nat) (x : SlotG) : Prop := w.cell? ⟨b, o, none⟩ = some (.int .u8 x.1.t.toNat) ∧ w.cell? ⟨b, o + 1, none⟩ = some (.bool x.1.m) ∧ w.cell? ⟨b, o + 2, none⟩ = some (.int .u8 x.1.i.op.toNat) ∧ w.cell? ⟨b, o + 3, none⟩ = some (.int .u64 x.1.i.a) ∧ w.cell? ⟨b, o + 4, none⟩ = some (.int .u64 x.1.i.b) ∧ w.cell? ⟨b, o + 5, none⟩ = some (.slice x.2.1 x.1.i.l.length x.2.2)
theorem Gs.six {w : World} {A : Option Addr} {l : List SlotG} (h : Gs w A l) {k : Nat} {x : SlotG} (hx : l[k]? = some x) : ∃ b off, A = some ⟨b, off, none⟩ ∧ b < w.heap.size ∧ SixAt w b (off + k * 6) x := by
  obtain ⟨b, off, e, h1, h2⟩ := h k x hx
  exact ⟨b, off, e, h1, h2 0 (by omega), h2 1 (by omega), h2 2 (by omega), h2 3 (by omega), h2 4 (by omega), h2 5 (by omega)⟩
theorem flatG_get : ∀ (l : List SlotG) (j : Nat) (x : SlotG) (u : Nat), l[j]? = some x → u < 6 → (l.flatMap sL)[j * 6 + u]? = (sL x)[u]?
  | [], j, x, u, h, _ => by cases h
  | y :: l, 0, x, u, h, hu => by
    injection h with h
    subst h
    rw [List.flatMap_cons, Nat.zero_mul, Nat.zero_add, List.getElem?_append_left (by show u < 6; exact hu)]
  | y :: l, j + 1, x, u, h, hu => by
    rw [List.flatMap_cons, List.getElem?_append_right (by show 6 ≤ _; omega)]
    have e : (j + 1) * 6 + u - (sL y).length = j * 6 + u := by show (j + 1) * 6 + u - 6 = _; omega
    rw [e]
    exact flatG_get l j x u h hu
/-- What a row of globals reads as. -/
theorem RowG.gs {W : World} {base : Nat} {A : Option Addr} {n c : Nat} {rows : List SlotG} (h : RowG W base (.slice A n c) rows) : Gs W A rows := fun j x hx => by
  have hj := (List.getElem?_eq_some_iff.1 hx).1
  rcases h.2 with ⟨_, h0⟩ | ⟨g, cap, cur, e, _, hg, _, _, _, ht⟩
  · omega
  · injection e with e1 e2 e3
    exact ⟨g, 0, e1, (Array.getElem?_eq_some_iff.1 hg).1, fun u hu => by
      rw [cell_of_row W g (0 + j * 6 + u) cur _ _ hg, ← flatG_get rows j x u hx hu, ← ht, List.getElem?_take, if_pos (by omega)]
      simp⟩
end Go.Proofs.YticgmfeihdankaaDoor

/- globals.PutAll. -/
namespace Go.Proofs.YticgmfeihdankaaDoor
open Go.RowKit
set_option linter.unusedVariables false
set_option maxRecDepth 100000

/-- May it be? Its bytes. -/
def rS (x : SlotG) : Int := rG x.1
noncomputable def sputL (x : SlotG) : List UInt8 := gputL x.1
def PuttedS (x : SlotG) (w : World) (e : Ending) (w' : World) : Prop := ∃ v, e = .returned (.tuple #[v, .int .i64 (rS x)]) ∧ Row w' w.heap.size v (if rS x = 0 then sputL x else []) ∧ Below w.heap.size w w'
/-- The numbers are what their kinds hold. -/
def OkG (l : List SlotG) : Prop := ∀ x ∈ l, x.1.i.Ok ∧ (x.1.i.l.length : Int) ≤ 9223372036854775807
theorem put_s (x : SlotG) (w : World) (hT : Tabs w) (h : x.1.i.Ok ∧ (x.1.i.l.length : Int) ≤ 9223372036854775807) : Calls Tryd.prog 62 #[sV x] w (PuttedS x w) := put_gl x.1 x.2.1 x.2.2 w h.1 hT h.2
theorem sputL_len {x : SlotG} (h : x.1.i.Ok ∧ (x.1.i.l.length : Int) ≤ 9223372036854775807) (h0 : rS x = 0) : 3 ≤ (sputL x).length ∧ (sputL x).length ≤ 34 := gputL_len h.1 h0
/-- The first error. -/
def errG : List SlotG → Int
  | [] => 0
  | x :: r => if rS x ≠ 0 then rS x else errG r
theorem errG_app : ∀ a b : List SlotG, errG (a ++ b) = if errG a ≠ 0 then errG a else errG b
  | [], b => by simp [errG]
  | x :: a, b => by
    simp only [List.cons_append, errG]
    by_cases h : rS x = 0
    · simp only [h, ne_eq, not_true_eq_false, if_false, errG_app a b]
    · simp [h]
theorem errG_snoc {l : List SlotG} {k : Nat} {x : SlotG} (h : l[k]? = some x) : errG (l.take (k + 1)) = if errG (l.take k) ≠ 0 then errG (l.take k) else rS x := by
  rw [List.take_add_one, h]
  show errG (l.take k ++ [x]) = _
  rw [errG_app]
  by_cases e : rS x = 0 <;> simp [errG, e]
theorem errG_bad {l : List SlotG} {k : Nat} (h : errG (l.take k) ≠ 0) : errG l = errG (l.take k) := by
  conv => lhs; rw [← List.take_append_drop k l]
  rw [errG_app, if_pos h]
theorem errG_mem : ∀ {l : List SlotG}, errG l = 0 → ∀ x ∈ l, rS x = 0
  | [], _, x, hx => by cases hx
  | y :: l, h, x, hx => by
    simp only [errG] at h
    by_cases e : rS y = 0
    · simp only [e, ne_eq, not_true_eq_false, if_false] at h
      rcases List.mem_cons.1 hx with rfl | hx
      · exact e
      · exact errG_mem h x hx
    · simp [e] at h
/-- Many globals' bytes. -/
noncomputable def gputsL (l : List SlotG) : List UInt8 := l.flatMap sputL
theorem gputsL_snoc {l : List SlotG} {k : Nat} {x : SlotG} (h : l[k]? = some x) : gputsL (l.take (k + 1)) = gputsL (l.take k) ++ sputL x := by
  unfold gputsL
  rw [List.take_add_one, h, List.flatMap_append]
  simp
theorem gputsL_len : ∀ {l : List SlotG}, OkG l → errG l = 0 → (gputsL l).length ≤ l.length * 34
  | [], _, _ => by simp [gputsL]
  | x :: r, h, h0 => by
    have h4 := errG_mem h0 x (by simp)
    have h5 : errG r = 0 := by simpa [errG, h4] using h0
    have h1 := gputsL_len (l := r) (fun y hy => h y (List.mem_cons_of_mem _ hy)) h5
    have h2 := h x (by simp)
    have h3 := (sputL_len h2 h4).2
    unfold gputsL at h1 ⊢
    rw [List.flatMap_cons, List.length_append, List.length_cons]
    omega
noncomputable def allG (l : List SlotG) : List UInt8 := lebL l.length ++ gputsL l
/-- What PutAll hands back. -/
def PuttedAllG (l : List SlotG) (w : World) (e : Ending) (w' : World) : Prop := ∃ v, e = .returned (.tuple #[v, .int .i64 (errG l)]) ∧ Row w' w.heap.size v (if errG l = 0 then allG l else []) ∧ Below w.heap.size w w'
theorem cfGP (a : Array Value) (w : World) : (callFunc 62 a).run Tryd.prog w = .ok (.enter 62 a) w := by kernel_rfl
end Go.Proofs.YticgmfeihdankaaDoor

/- globals.GetAll of any bytes; the laws' closures. -/
namespace Go.Proofs.YticgmfeihdankaaDoor
open Go.RowKit
set_option linter.unusedVariables false
set_option maxRecDepth 100000

/-- Globals, one behind the other, behind those that are read. -/
noncomputable def gsK (l : List UInt8) : Nat → Nat → List Gl → Res (List Gl)
  | 0, q, acc => .ok acc q
  | n + 1, q, acc => (gR l q).bind fun x q2 => gsK l n q2 (acc ++ [x])
theorem gsK_more {l : List UInt8} {n j q : Nat} {acc : List Gl} (h : j < n) : gsK l (n - j) q acc = (gR l q).bind fun x q2 => gsK l (n - (j + 1)) q2 (acc ++ [x]) := by
  rw [show n - j = n - (j + 1) + 1 by omega]; rfl
/-- A list, and its end. -/
noncomputable def allR (l : List UInt8) (k : Nat) : Res (List Gl) := (countR l k).bind fun n k1 => (gsK l n.toNat k1 []).bind fun xs k2 => if k2 < l.length then .err 14 k2 else .ok xs k2
/-- What holds at the head of GetAll's loop. -/
structure AInG (w : World) (p : Nat) (l : List UInt8) (k : Nat) (xs : List SlotG) (v : Value) (W : World) : Prop where
  sc : Sc W p l k
  g : w.grownBy W (some p)
  r : RowG W w.heap.size v xs
  tb : TbP p W
section
variable {w W W' : World} {p : Nat} {l : List UInt8} {k k' : Nat} {xs : List SlotG} {x : SlotG} {v v' : Value}
theorem AInG.step (h : AInG w p l k xs v W) (hp : p < w.heap.size) (hg : W.grownBy W' (some p)) (hs : Sc W' p l k') : AInG w p l k' xs v W' :=
  ⟨hs, gb_trans h.g hg, h.r.past hg hp, h.tb.self hg⟩
theorem AInG.alloc (h : AInG w p l k xs v W) (hp : p < w.heap.size) (o : Obj) : AInG w p l k xs v (W.alloc o) := h.step hp (gb_alloc (gb_refl _ _) o) (h.sc.alloc o)
theorem AInG.more (h : AInG w p l k xs v W) (hp : p < w.heap.size) (hg : W.grownBy W' v.ownBlock) (hr : RowG W' w.heap.size v' (xs ++ [x])) : AInG w p l k (xs ++ [x]) v' W' := by
  have hlt := World.ownsRow.lt h.r
  exact ⟨h.sc.grown hg (fun e => by have := hlt p e.symm; omega) (fun g e => by have := hlt g e; omega), gb_before h.g hg (fun g e => .inr (hlt g e).1), hr, h.tb.grown hg (fun g e => by have := hlt g e; omega)⟩
end
/-- The list that was read. -/
def GotAllG (p : Nat) (l : List UInt8) (r : Res (List Gl)) (w : World) (e : Ending) (w' : World) : Prop := match r with
  | .ok xs k => ∃ v rows, e = .returned v ∧ RowG w' w.heap.size v rows ∧ rows.map (·.1) = xs ∧ Sc w' p l k ∧ w.grownBy w' (some p)
  | .err c a => e = .panicked (stopP c a) ∧ w.grownBy w' (some p)
theorem cfGG (a : Array Value) (w : World) : (callFunc 66 a).run Tryd.prog w = .ok (.enter 66 a) w := by kernel_rfl
end Go.Proofs.YticgmfeihdankaaDoor
