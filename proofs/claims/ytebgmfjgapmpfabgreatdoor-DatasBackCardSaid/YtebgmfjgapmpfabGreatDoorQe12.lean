/- consts.Put, Global; the reference's Put; awake. -/
import Derived.Test.YtebgmfjgapmpfabGreatDoorQe08
import Derived.Test.YtebgmfjgapmpfabGreatDoorQe11
import Derived.Test.YtebgmfjgapmpfabGreatDoorQe09
import Derived.Test.YtebgmfjgapmpfabGreatDoorQe02
namespace Go.Proofs.YtebgmfjgapmpfabGreatDoor
open Go.RowKit
set_option linter.unusedVariables false
set_option maxRecDepth 100000

/-- What consts.Put hands back. -/
def CPutPost (i : I) (w : World) (e : Ending) (w' : World) : Prop :=
  ∃ v, e = .returned (.tuple #[v, .int .i64 (crightZ i)]) ∧ Row w' w.heap.size v (if crightZ i = 0 then putL i ++ [11] else []) ∧ Below w.heap.size w w'
theorem cput_no {i : I} {z : Int} {w w' : World} (h : z ≠ 0) (hz : z = crightZ i) (hb : Below w.heap.size w w') : CPutPost i w (.returned (.tuple #[.slice none 0 0, .int .i64 z])) w' := by
  subst hz
  exact ⟨_, rfl, by rw [if_neg h]; exact Row.nil _ _, hb⟩
theorem cput_yes {i : I} {x : List UInt8} {v : Value} {w w' : World} (h : crightZ i = 0) (hx : x = putL i) (hr : Row w' w.heap.size v (x ++ [11])) (hb : Below w.heap.size w w') : CPutPost i w (.returned (.tuple #[v, .int .i64 0])) w' :=
  ⟨v, by rw [h], by rw [if_pos h, ← hx]; exact hr, hb⟩
set_option maxHeartbeats 1000000 in
theorem cput_any (i : I) (A : Option Addr) (c : Nat) (w : World) (h : i.Ok) (hT : Tabs w) (hl : Lies w w.heap.size A (cells32 i.l)) (hl63 : (i.l.length : Int) ≤ 9223372036854775807) :
    Calls Tryz.prog 113 #[insV i A c] w (CPutPost i w) := by
  have HB := Lib.hid (BoxI.start w i A c)
  have HR := Lib.hid (cright_any i A c (w.alloc (.cells (insC i A c) 59)) h (hT.below HB.out.2) hl63)
  by_cases h0 : crightZ i = 0
  · rw [h0] at HR
    have hr := (cr_zero h0).1
    have hlen := immL_len h hr
    obtain ⟨x, hx⟩ : ∃ x, x = putL i := ⟨_, rfl⟩
    have hxl : x.length ≤ 200001 := by rw [hx]; show (i.op :: immL i).length ≤ _; simp; omega
    have HP := Lib.hid (fun W (hb : Below w.heap.size w W) => show Calls Tryz.prog 92 #[insV i A c] W fun e w' => ∃ v, e = .returned (.tuple #[v, .int .i64 0]) ∧ Row w' W.heap.size v x ∧ Below W.heap.size W w' from
      (put_any i A c W h (hT.below hb) ((hl.below hb (Nat.le_refl _)).more hb.size) hl63).mono fun e w' hq => by
        obtain ⟨v, h1, h2, h3⟩ := hq
        rw [hr] at h1
        rw [if_pos hr, ← hx] at h2
        exact ⟨v, h1, h2, h3⟩)
    have HX := Lib.hid hx
    have H0 := Lib.hid h0
    clear h hT hl hl63 h0 hr hlen hx
    go_enter Tryz.func113, Tryz.ntmps113
    go_wp2_with (first
      | (go_at_call 112; go_must ((with_reducible refine HR.out.mono ?_); rintro e w1 ⟨rfl, hb⟩; have HB1 := Lib.hid (HB.out.on hb); have c0 := HB1.out.c0; have c1 := HB1.out.c1; have c2 := HB1.out.c2; have c3 := HB1.out.c3; clear hb))
      | (go_at_call 92; go_must ((with_reducible refine (HP.out _ HB1.out.bel).mono ?_); intro e w2 hq; obtain ⟨v, rfl, hr, hb⟩ := hq; have HR2 := Lib.hid hr; have HB2 := Lib.hid (HB1.out.bel.trans (hb.mono HB1.out.bel.size)); have hz2 := hb.size; clear hr hb))
      | (at_builtin; (refine row_new rfl _ _ rfl w1.heap.size _ x rfl (HR2.out.alloc _) w2.heap.size 1 [11] rfl rfl (heap_alloc_new w2 _) (by omega) (by simp; omega) (by simp; omega) ?_; intro v3 w3 hr3 hb3; have HR3 := Lib.hid hr3; have HB3 := Lib.hid hb3; clear hr3 hb3)))
    go_ret2
    exact cput_yes H0.out HX.out (HR3.out.mono HB1.out.bel.size) ((HB2.out.alloc HB2.out.size _).trans (HB3.out.mono HB1.out.bel.size))
  · have HX := Lib.hid h0
    obtain ⟨z, hz⟩ : ∃ z, z = crightZ i := ⟨_, rfl⟩
    rw [← hz] at HR HX
    have dz : (z != 0) = true := by rw [hz]; simpa using h0
    have HZ := Lib.hid hz
    clear h hT hl hl63 h0 hz
    go_enter Tryz.func113, Tryz.ntmps113
    go_wp2_with (go_at_call 112; go_must ((with_reducible refine HR.out.mono ?_); rintro e w1 ⟨rfl, hb1⟩; have HB1 := Lib.hid (HB.out.on hb1); clear hb1))
    go_ret2
    exact cput_no HX.out HZ.out HB1.out.bel

theorem rcput_any (i : I) (A : Option Addr) (c : Nat) (w : World) (h : i.Ok) (hr : rightZ i = 0) (hl : Lies w w.heap.size A (cells32 i.l)) :
    Calls Tryz.prog 49 #[insV i A c] w (StrPost (putL i ++ [11]) w) := by
  have HB := Lib.hid (BoxI.start w i A c)
  have hlen := immL_len h hr
  have HP := Lib.hid (refPut_any i A c (w.alloc (.cells (insC i A c) 59)) h hr ((hl.below HB.out.2 (Nat.le_refl _)).more HB.out.2.size))
  obtain ⟨x, hx⟩ : ∃ x, x = putL i := ⟨_, rfl⟩
  have hxl : (S x).size + (⟨#[11]⟩ : ByteArray).size ≤ 9223372036854775807 := by
    rw [S_size, hx]
    show (i.op :: immL i).length + 1 ≤ _
    simp
    omega
  have hxl2 : (S x).size + 1 ≤ 9223372036854775807 := hxl
  have HS := Lib.hid (S_append x [11])
  rw [← hx] at HP ⊢
  clear h hr hl hlen hx
  go_enter Tryz.func49, Tryz.ntmps49
  go_wp2_with (go_at_call 32; go_must ((with_reducible refine HP.out.mono ?_); rintro e w1 ⟨rfl, hb⟩; have HB1 := Lib.hid (HB.out.on hb); clear hb))
  go_ret
  exact ⟨by rw [← HS.out]; rfl, HB1.out.bel⟩

/-- Global's instruction. -/
abbrev gIns (n : Int) : I := ⟨35, n, 0, []⟩
/-- The page's example. -/
def cEg : I := ⟨65, 5, 0, []⟩
theorem cEg_ok : cEg.Ok := ⟨by decide, by decide, by decide, by decide, fun c h => by cases h⟩
theorem cEg_imm : immR cEg.n = 10 := by decide +kernel
theorem cEg_right : rightZ cEg = 0 := by decide +kernel
theorem cEg_zero : crightZ cEg = 0 := cr_yes cEg_right (by decide)
theorem cEg_put : putL cEg = [65, 5] := by
  have hm : sebN 5 = 1 := (sebN_least 5 (by omega) (by omega)).unique ⟨Nat.le_refl _, by unfold fitS; decide, fun m a b => by omega⟩
  have hs : s32 cEg.a = 5 := by decide +kernel
  unfold putL immL immB
  rw [cEg_imm, hs]
  show [65] ++ sebL 5 = _
  unfold sebL
  rw [hm]
  rfl
end Go.Proofs.YtebgmfjgapmpfabGreatDoor

/- Constant expressions have no labels; their bytes. -/
namespace Go.Proofs.YtebgmfjgapmpfabGreatDoor
open Go.RowKit
set_option linter.unusedVariables false
set_option maxRecDepth 100000

theorem isC_imm {n : Nat} (h : IsC n) : immR n ≠ 3 := by rcases h with rfl | rfl | rfl <;> decide +kernel
/-- A constant expression has no labels. -/
theorem cz_nil {i : I} (h : crightZ i = 0) : i.l = [] := by
  obtain ⟨h1, h2⟩ := cr_zero h
  unfold rightZ at h1
  split at h1
  · omega
  · split at h1
    · omega
    · rename_i h3
      have h4 := isC_imm h2
      rcases Nat.eq_zero_or_pos i.l.length with h5 | h5
      · exact List.eq_nil_of_length_eq_zero h5
      · exact absurd ⟨h5, h4⟩ h3
/-- consts.Put, whatever the labels lie as: there are none where they would be read. -/
theorem cput2_any (i : I) (A : Option Addr) (c : Nat) (w : World) (h : i.Ok) (hT : Tabs w) (h0 : crightZ i = 0) :
    Calls Tryz.prog 113 #[insV i A c] w (CPutPost i w) :=
  cput_any i A c w h hT (by rw [cz_nil h0]; intro j v hv; simp [cells32] at hv) (by rw [cz_nil h0]; simp)
/-- Its bytes. -/
noncomputable def cputL (i : I) : List UInt8 := putL i ++ [11]
theorem cputL_len {i : I} (h : i.Ok) (h0 : crightZ i = 0) : 1 ≤ (cputL i).length ∧ (cputL i).length ≤ 32 := by
  have hl := cz_nil h0
  obtain ⟨a0, a1, b0, b1, _⟩ := h
  have k1 := lebL_len i.a (by omega)
  have k2 := lebL_len i.b (by omega)
  have k3 := lebL_len ((0 : Nat) : Int) (by omega)
  have k5 := sebL_len (s32 i.a) (by unfold s32; omega) (by unfold s32; omega)
  have k6 := sebL_len (s64 i.a) (by unfold s64; omega) (by unfold s64; omega)
  unfold cputL putL immL immB labL labsL
  rw [hl]
  repeat' split
  all_goals (simp only [List.length_append, List.length_cons, List.length_nil, List.flatMap_nil])
  all_goals omega
theorem readR_nil {l : List UInt8} {k : Nat} {i : I} {k' : Nat} (h : readR l k = .ok i k') : i.l = [] := by
  unfold readR at h
  cases hr : getR l k with
  | err c a => rw [hr, Res.bind_err] at h; cases h
  | ok j p =>
    rw [hr, Res.bind_ok] at h
    by_cases hz : crightZ j = 0
    · rw [if_pos hz] at h
      cases hb : byteR l p with
      | err c a => rw [hb, Res.bind_err] at h; cases h
      | ok d p2 =>
        rw [hb, Res.bind_ok] at h
        by_cases hd : d = 11
        · rw [if_pos hd] at h
          injection h with h1 h2
          subst h1
          exact cz_nil hz
        · rw [if_neg hd] at h; cases h
    · rw [if_neg hz] at h; cases h
end Go.Proofs.YtebgmfjgapmpfabGreatDoor

/- Element segments as plain data; elems.Right; creelref13.Count, Right. -/
namespace Go.Proofs.YtebgmfjgapmpfabGreatDoor
open Go.RowKit
set_option linter.unusedVariables false
set_option maxRecDepth 100000

/-- An element segment: its offset, its functions. -/
structure El where
  i : I
  fs : List Int
/-- Its cells, its labels at A, its functions at F. -/
abbrev elC (x : El) (A : Option Addr) (c : Nat) (F : Option Addr) (f : Nat) : Array Value := #[.int .u8 x.i.op.toNat, .int .u64 x.i.a, .int .u64 x.i.b, .slice A x.i.l.length c, .slice F x.fs.length f]
abbrev elV (x : El) (A : Option Addr) (c : Nat) (F : Option Addr) (f : Nat) : Value := .agg (elC x A c F f)
/-- The zero value's cells. -/
abbrev elZ : Array Value := #[.int .u8 0, .int .u64 0, .int .u64 0, .slice none 0 0, .slice none 0 0]
abbrev FiveE (W : World) (b : Nat) (x : El) (A : Option Addr) (c : Nat) (F : Option Addr) (f : Nat) : Prop :=
  W.cell? ⟨b, 0, none⟩ = some (.int .u8 x.i.op.toNat) ∧ W.cell? ⟨b, 1, none⟩ = some (.int .u64 x.i.a) ∧ W.cell? ⟨b, 2, none⟩ = some (.int .u64 x.i.b) ∧ W.cell? ⟨b, 3, none⟩ = some (.slice A x.i.l.length c) ∧ W.cell? ⟨b, 4, none⟩ = some (.slice F x.fs.length f)
theorem Whole.el {w : World} {b : Nat} {t : TypeId} {x : El} {A : Option Addr} {c : Nat} {F : Option Addr} {f : Nat} (h : Whole w b t (elC x A c F f)) : FiveE w b x A c F f := ⟨h.cell 0, h.cell 1, h.cell 2, h.cell 3, h.cell 4⟩
theorem put5 {w : World} {b : Nat} {t : TypeId} {x0 x1 x2 x3 x4 u0 u1 u2 u3 u4 : Value} (hb : Whole w b t #[x0, x1, x2, x3, x4]) :
    Whole (((((w.setCell ⟨b, 0, none⟩ u0).setCell ⟨b, 1, none⟩ u1).setCell ⟨b, 2, none⟩ u2).setCell ⟨b, 3, none⟩ u3).setCell ⟨b, 4, none⟩ u4) b t #[u0, u1, u2, u3, u4] ∧
    w.grownBy (((((w.setCell ⟨b, 0, none⟩ u0).setCell ⟨b, 1, none⟩ u1).setCell ⟨b, 2, none⟩ u2).setCell ⟨b, 3, none⟩ u3).setCell ⟨b, 4, none⟩ u4) (some b) :=
  ⟨(((((hb.put 0 u0).put 1 u1).put 2 u2).put 3 u3).put 4 u4),
   gb_put (p := ⟨b, 4, none⟩) (gb_put (p := ⟨b, 3, none⟩) (gb_put (p := ⟨b, 2, none⟩) (gb_put (p := ⟨b, 1, none⟩) (gb_put (p := ⟨b, 0, none⟩) (gb_refl w _) (.inl rfl) u0) (.inl rfl) u1) (.inl rfl) u2) (.inl rfl) u3) (.inl rfl) u4⟩
section
variable {B W W' : World} {b : Nat} {x : El} {A : Option Addr} {c : Nat} {F : Option Addr} {f : Nat}
end
end Go.Proofs.YtebgmfjgapmpfabGreatDoor

/- instr.Get of any bytes. (By gen/genGetA.py.) -/
namespace Go.Proofs.YtebgmfjgapmpfabGreatDoor
open Go.RowKit
set_option linter.unusedVariables false
set_option maxRecDepth 100000

/-- What Get leaves behind. -/
def GetsR (p : Nat) (l : List UInt8) (r : Res I) (w : World) (e : Ending) (w' : World) : Prop := match r with
  | .ok i k => Gets p l i k w e w'
  | .err c a => e = .panicked (stopP c a) ∧ w.grownBy w' (some p)
set_option maxHeartbeats 4000000 in
theorem getA_any {w : World} {p : Nat} {l : List UInt8} {k : Nat} (hs : Sc w p l k) (hT : TbP p w) :
    Calls Tryz.prog 110 #[.pointer (some ⟨p, 0, none⟩)] w (GetsR p l (getR l k) w) := by
  have hlt := hs.lt
  have HZ : Hid (Sc (w.alloc (.cells #[.int .u8 0, .int .u64 0, .int .u64 0, .slice none 0 0] 59)) p l k ∧ TbP p (w.alloc (.cells #[.int .u8 0, .int .u64 0, .int .u64 0, .slice none 0 0] 59))) := ⟨hs.alloc _, hT.below (below_box w _) (by omega)⟩
  have hO := getOp_any HZ.out.1 HZ.out.2
  unfold getR
  cases hop : opR l k with
  | err ec ea =>
    rw [hop] at hO
    rw [Res.bind_err]
    show Calls _ _ _ _ (fun e w' => e = .panicked (stopP ec ea) ∧ w.grownBy w' (some p))
    have HOP := Lib.hid hO
    clear hs hT hO hop HZ
    go_enter Tryz.func110, Tryz.ntmps110
    go_wp2_with (go_at_call 127; go_must ((with_reducible refine HOP.out.mono ?_); rintro e w1 ⟨rfl, hg⟩; have HG := Lib.hid hg; clear hg))
    exact ⟨rfl, rfl, gb_trans (gb_alloc (gb_refl w _) _) HG.out⟩
  | ok c k1 =>
    rw [hop] at hO
    rw [Res.bind_ok]
    obtain ⟨hk1, hc0⟩ := opR_ok hop
    have hn : c.toNat ≤ 255 := by have := c.toNat_lt; omega
    obtain ⟨m, hm⟩ : ∃ m, m = immR c.toNat := ⟨_, rfl⟩
    obtain ⟨inf, hinf⟩ : ∃ inf, inf = infR c.toNat := ⟨_, rfl⟩
    have him : inf.imm = m := by rw [hinf, hm]; exact (imm_same hn hc0).1
    have HI : Hid (∀ W, Tabs W → Calls Tryz.prog 128 #[.int .u8 c.toNat] W fun e w' => e = .returned (infV inf) ∧ Below W.heap.size W w') := fun W hW => by rw [hinf]; exact of_any c.toNat W hW hn
    have hfield := fun z wx => field_imm (S inf.name) (S inf.ps) (S inf.rs) z inf.free wx
    show Calls _ _ _ _ (GetsR p l (bodyR (immR c.toNat) c l k1) w)
    rw [← hm]
    have HOP := Lib.hid hO
    have HWM := Lib.hid (Whole.made w 59 #[.int .u8 0, .int .u64 0, .int .u64 0, .slice none 0 0])
    have hstart : ∀ w1, Sc w1 p l k1 → (w.alloc (.cells #[.int .u8 0, .int .u64 0, .int .u64 0, .slice none 0 0] 59)).grownBy w1 (some p) → GSt w p l w1.heap.size none [] k1 (.int .u8 c.toNat) (.int .u64 0) (.int .u64 0) (.slice none 0 0) (w1.alloc (.cells #[.int .u8 c.toNat, .int .u64 0, .int .u64 0, .slice none 0 0] 59)) := fun w1 hs1 hg1 => by
      have hz := hg1.size
      rw [size_box] at hz
      exact ⟨(HWM.out.grown hg1 (by simp only [ne_eq, Option.some.injEq]; omega)).alloc _, Whole.made _ _ _, hs1.alloc _, gb_alloc (gb_trans (gb_alloc (gb_refl w _) _) hg1) _, hlt, by omega, (HZ.out.2.self hg1).below (below_box w1 _) (by omega), (fun j v hv => by simp [cells32] at hv), (fun a e => by cases e), .inl ⟨rfl, rfl⟩⟩
    have HST := Lib.hid hstart
    clear hs hT hO hop hc0 hinf hm hstart
    by_cases m0 : m = 0
    · subst m0
      rw [show bodyR 0 c l k1 = .ok ⟨c, 0, 0, []⟩ k1 from by unfold bodyR; rw [if_pos rfl]]
      go_enter Tryz.func110, Tryz.ntmps110
      go_wp2_with (first
        | (go_at_call 127; go_must ((with_reducible refine HOP.out.mono ?_); rintro e w1 ⟨rfl, hs, hg⟩; have HG1 := Lib.hid (HST.out w1 hs hg); have hh := HG1.out.h2; have n1 : ¬ w1.heap.size = w.heap.size := (by omega); have n2 : ¬ w.heap.size = w1.heap.size := (by omega); clear hs hg hh))
        | (go_at_call 128; go_must ((with_reducible refine (HI.out _ HG1.out.tb.tabs).mono ?_); rintro e w2 ⟨rfl, hb⟩; unfold infV; have HG2 := Lib.hid (HG1.out.below hb); have c0 := HG2.out.box.cell 0; have c1 := HG2.out.box.cell 1; have c2 := HG2.out.box.cell 2; have c3 := HG2.out.box.cell 3; have f1 := HG2.out.box.frozen 1; have f2 := HG2.out.box.frozen 2; have f3 := HG2.out.box.frozen 3; have r0 := HG2.out.res.cell 0; have r1 := HG2.out.res.cell 1; have r2 := HG2.out.res.cell 2; have r3 := HG2.out.res.cell 3; have z0 := HG2.out.res.frozen 0; have z1 := HG2.out.res.frozen 1; have z2 := HG2.out.res.frozen 2; have z3 := HG2.out.res.frozen 3; simp only [List.getElem?_toArray, List.getElem?_cons_zero, List.getElem?_cons_succ] at c0 c1 c2 c3 r0 r1 r2 r3; clear hb)))
      obtain ⟨q, hf⟩ := GSt.fin (HG2.out) (.int .u8 c.toNat) (.int .u64 0) (.int .u64 0) (.slice none 0 0) _ rfl
      have q0 := q.cell 0
      have q1 := q.cell 1
      have q2 := q.cell 2
      have q3 := q.cell 3
      simp only [List.getElem?_toArray, List.getElem?_cons_zero, List.getElem?_cons_succ] at q0 q1 q2 q3
      exact bodyPost_ret (v := insV (⟨c, 0, 0, []⟩ : I) none 0) (by simp [results, Tryz.results110, go_sem, q0, q1, q2, q3]) rfl (gets_end (i := (⟨c, 0, 0, []⟩ : I)) (HG2.out) hf rfl rfl)
    have d0 : ((m : Int) == 0) = false := by simp; omega
    by_cases m1 : m = 1
    · subst m1
      rw [show bodyR 1 c l k1 = (blockR l k1).bind fun a k1 => .ok ⟨c, a, 0, []⟩ k1 from by unfold bodyR; rw [if_neg (by omega), if_pos rfl]]
      have hX0 := fun W (h : Sc W p l k1) => getBlock_any h
      cases hr0 : blockR l k1 with
      | err ec ea =>
        rw [Res.bind_err]
        show Calls _ _ _ _ (fun e w' => e = .panicked (stopP ec ea) ∧ w.grownBy w' (some p))
        have HX0 := Lib.hid (fun W (h : Sc W p l k1) => show Calls Tryz.prog 129 #[.pointer (some ⟨p, 0, none⟩)] W (Did enc64 p l W (.err ec ea)) from by have := hX0 W h; rw [hr0] at this; exact this)
        clear hX0 hr0
        go_enter Tryz.func110, Tryz.ntmps110
        go_wp2_with (first
          | (go_at_call 127; go_must ((with_reducible refine HOP.out.mono ?_); rintro e w1 ⟨rfl, hs, hg⟩; have HG1 := Lib.hid (HST.out w1 hs hg); have hh := HG1.out.h2; have n1 : ¬ w1.heap.size = w.heap.size := (by omega); have n2 : ¬ w.heap.size = w1.heap.size := (by omega); clear hs hg hh))
          | (go_at_call 128; go_must ((with_reducible refine (HI.out _ HG1.out.tb.tabs).mono ?_); rintro e w2 ⟨rfl, hb⟩; unfold infV; have HG2 := Lib.hid (HG1.out.below hb); have c0 := HG2.out.box.cell 0; have c1 := HG2.out.box.cell 1; have c2 := HG2.out.box.cell 2; have c3 := HG2.out.box.cell 3; have f1 := HG2.out.box.frozen 1; have f2 := HG2.out.box.frozen 2; have f3 := HG2.out.box.frozen 3; have r0 := HG2.out.res.cell 0; have r1 := HG2.out.res.cell 1; have r2 := HG2.out.res.cell 2; have r3 := HG2.out.res.cell 3; have z0 := HG2.out.res.frozen 0; have z1 := HG2.out.res.frozen 1; have z2 := HG2.out.res.frozen 2; have z3 := HG2.out.res.frozen 3; simp only [List.getElem?_toArray, List.getElem?_cons_zero, List.getElem?_cons_succ] at c0 c1 c2 c3 r0 r1 r2 r3; clear hb))
          | (go_at_call 129; go_must ((with_reducible refine (HX0.out _ (HG2.out).sc).mono ?_); rintro e w3 ⟨rfl, hg⟩; have HGE := Lib.hid hg; clear hg)))
        exact ⟨rfl, rfl, gb_trans (HG2.out).gr HGE.out⟩
      | ok v0 k2 =>
        rw [Res.bind_ok]
        have HX0 := Lib.hid (fun W (h : Sc W p l k1) => show Calls Tryz.prog 129 #[.pointer (some ⟨p, 0, none⟩)] W (Did enc64 p l W (.ok v0 k2)) from by have := hX0 W h; rw [hr0] at this; exact this)
        clear hX0 hr0
        go_enter Tryz.func110, Tryz.ntmps110
        go_wp2_with (first
          | (go_at_call 127; go_must ((with_reducible refine HOP.out.mono ?_); rintro e w1 ⟨rfl, hs, hg⟩; have HG1 := Lib.hid (HST.out w1 hs hg); have hh := HG1.out.h2; have n1 : ¬ w1.heap.size = w.heap.size := (by omega); have n2 : ¬ w.heap.size = w1.heap.size := (by omega); clear hs hg hh))
          | (go_at_call 128; go_must ((with_reducible refine (HI.out _ HG1.out.tb.tabs).mono ?_); rintro e w2 ⟨rfl, hb⟩; unfold infV; have HG2 := Lib.hid (HG1.out.below hb); have c0 := HG2.out.box.cell 0; have c1 := HG2.out.box.cell 1; have c2 := HG2.out.box.cell 2; have c3 := HG2.out.box.cell 3; have f1 := HG2.out.box.frozen 1; have f2 := HG2.out.box.frozen 2; have f3 := HG2.out.box.frozen 3; have r0 := HG2.out.res.cell 0; have r1 := HG2.out.res.cell 1; have r2 := HG2.out.res.cell 2; have r3 := HG2.out.res.cell 3; have z0 := HG2.out.res.frozen 0; have z1 := HG2.out.res.frozen 1; have z2 := HG2.out.res.frozen 2; have z3 := HG2.out.res.frozen 3; simp only [List.getElem?_toArray, List.getElem?_cons_zero, List.getElem?_cons_succ] at c0 c1 c2 c3 r0 r1 r2 r3; clear hb))
          | (go_at_call 129; go_must ((with_reducible refine (HX0.out _ (HG2.out).sc).mono ?_); rintro e w3 ⟨rfl, hs, hg⟩; clear c0 c1 c2 c3 f1 f2 f3 r0 r1 r2 r3 z0 z1 z2 z3; have HG3 := Lib.hid ((HG2.out).call hs hg); have c0 := HG3.out.box.cell 0; have c1 := HG3.out.box.cell 1; have c2 := HG3.out.box.cell 2; have c3 := HG3.out.box.cell 3; have f1 := HG3.out.box.frozen 1; have f2 := HG3.out.box.frozen 2; have f3 := HG3.out.box.frozen 3; have r0 := HG3.out.res.cell 0; have r1 := HG3.out.res.cell 1; have r2 := HG3.out.res.cell 2; have r3 := HG3.out.res.cell 3; have z0 := HG3.out.res.frozen 0; have z1 := HG3.out.res.frozen 1; have z2 := HG3.out.res.frozen 2; have z3 := HG3.out.res.frozen 3; simp only [List.getElem?_toArray, List.getElem?_cons_zero, List.getElem?_cons_succ] at c0 c1 c2 c3 r0 r1 r2 r3; clear hs hg)))
        obtain ⟨q, hf⟩ := GSt.fin ((HG3.out.put 1 (.int .u64 v0) rfl)) (.int .u8 c.toNat) (.int .u64 v0) (.int .u64 0) (.slice none 0 0) _ rfl
        have q0 := q.cell 0
        have q1 := q.cell 1
        have q2 := q.cell 2
        have q3 := q.cell 3
        simp only [List.getElem?_toArray, List.getElem?_cons_zero, List.getElem?_cons_succ] at q0 q1 q2 q3
        exact bodyPost_ret (v := insV (⟨c, v0, 0, []⟩ : I) none 0) (by simp [results, Tryz.results110, go_sem, q0, q1, q2, q3]) rfl (gets_end (i := (⟨c, v0, 0, []⟩ : I)) ((HG3.out.put 1 (.int .u64 v0) rfl)) hf rfl rfl)
    have d1 : ((m : Int) == 1) = false := by simp; omega
    by_cases m3 : m = 3
    · subst m3
      rw [show bodyR 3 c l k1 = (labelsR l k1).bind fun ls k1 => (indexR l k1).bind fun a k2 => .ok ⟨c, a, 0, ls⟩ k2 from by unfold bodyR; rw [if_neg (by omega), if_neg (by omega), if_pos rfl]]
      have hX0 := fun W (h : Sc W p l k1) => getLabels_any h
      cases hr0 : labelsR l k1 with
      | err ec ea =>
        rw [Res.bind_err]
        show Calls _ _ _ _ (fun e w' => e = .panicked (stopP ec ea) ∧ w.grownBy w' (some p))
        have HX0 := Lib.hid (fun W (h : Sc W p l k1) => show Calls Tryz.prog 130 #[.pointer (some ⟨p, 0, none⟩)] W (LabsR p l (.err ec ea) W) from by have := hX0 W h; rw [hr0] at this; exact this)
        clear hX0 hr0
        go_enter Tryz.func110, Tryz.ntmps110
        go_wp2_with (first
          | (go_at_call 127; go_must ((with_reducible refine HOP.out.mono ?_); rintro e w1 ⟨rfl, hs, hg⟩; have HG1 := Lib.hid (HST.out w1 hs hg); have hh := HG1.out.h2; have n1 : ¬ w1.heap.size = w.heap.size := (by omega); have n2 : ¬ w.heap.size = w1.heap.size := (by omega); clear hs hg hh))
          | (go_at_call 128; go_must ((with_reducible refine (HI.out _ HG1.out.tb.tabs).mono ?_); rintro e w2 ⟨rfl, hb⟩; unfold infV; have HG2 := Lib.hid (HG1.out.below hb); have c0 := HG2.out.box.cell 0; have c1 := HG2.out.box.cell 1; have c2 := HG2.out.box.cell 2; have c3 := HG2.out.box.cell 3; have f1 := HG2.out.box.frozen 1; have f2 := HG2.out.box.frozen 2; have f3 := HG2.out.box.frozen 3; have r0 := HG2.out.res.cell 0; have r1 := HG2.out.res.cell 1; have r2 := HG2.out.res.cell 2; have r3 := HG2.out.res.cell 3; have z0 := HG2.out.res.frozen 0; have z1 := HG2.out.res.frozen 1; have z2 := HG2.out.res.frozen 2; have z3 := HG2.out.res.frozen 3; simp only [List.getElem?_toArray, List.getElem?_cons_zero, List.getElem?_cons_succ] at c0 c1 c2 c3 r0 r1 r2 r3; clear hb))
          | (go_at_call 130; go_must ((with_reducible refine (HX0.out _ (HG2.out).sc).mono ?_); rintro e w3 ⟨rfl, hg⟩; have HGE := Lib.hid hg; clear hg)))
        exact ⟨rfl, rfl, gb_trans (HG2.out).gr HGE.out⟩
      | ok v0 k2 =>
        rw [Res.bind_ok]
        have HX0 := Lib.hid (fun W (h : Sc W p l k1) => show Calls Tryz.prog 130 #[.pointer (some ⟨p, 0, none⟩)] W (LabsR p l (.ok v0 k2) W) from by have := hX0 W h; rw [hr0] at this; exact this)
        clear hX0 hr0
        have hX1 := fun W (h : Sc W p l k2) => getNumber_any h
        cases hr1 : indexR l k2 with
        | err ec ea =>
          rw [Res.bind_err]
          show Calls _ _ _ _ (fun e w' => e = .panicked (stopP ec ea) ∧ w.grownBy w' (some p))
          have HX1 := Lib.hid (fun W (h : Sc W p l k2) => show Calls Tryz.prog 131 #[.pointer (some ⟨p, 0, none⟩)] W (Did enc64 p l W (.err ec ea)) from by have := hX1 W h; rw [hr1] at this; exact this)
          clear hX1 hr1
          go_enter Tryz.func110, Tryz.ntmps110
          go_wp2_with (first
            | (go_at_call 127; go_must ((with_reducible refine HOP.out.mono ?_); rintro e w1 ⟨rfl, hs, hg⟩; have HG1 := Lib.hid (HST.out w1 hs hg); have hh := HG1.out.h2; have n1 : ¬ w1.heap.size = w.heap.size := (by omega); have n2 : ¬ w.heap.size = w1.heap.size := (by omega); clear hs hg hh))
            | (go_at_call 128; go_must ((with_reducible refine (HI.out _ HG1.out.tb.tabs).mono ?_); rintro e w2 ⟨rfl, hb⟩; unfold infV; have HG2 := Lib.hid (HG1.out.below hb); have c0 := HG2.out.box.cell 0; have c1 := HG2.out.box.cell 1; have c2 := HG2.out.box.cell 2; have c3 := HG2.out.box.cell 3; have f1 := HG2.out.box.frozen 1; have f2 := HG2.out.box.frozen 2; have f3 := HG2.out.box.frozen 3; have r0 := HG2.out.res.cell 0; have r1 := HG2.out.res.cell 1; have r2 := HG2.out.res.cell 2; have r3 := HG2.out.res.cell 3; have z0 := HG2.out.res.frozen 0; have z1 := HG2.out.res.frozen 1; have z2 := HG2.out.res.frozen 2; have z3 := HG2.out.res.frozen 3; simp only [List.getElem?_toArray, List.getElem?_cons_zero, List.getElem?_cons_succ] at c0 c1 c2 c3 r0 r1 r2 r3; clear hb))
            | (have tok := HG3; go_at_call 131; go_must ((with_reducible refine (HX1.out _ ((HG3.out.put 3 (.slice A v0.length cp) rfl)).sc).mono ?_); rintro e w4 ⟨rfl, hg⟩; have HGE := Lib.hid hg; clear hg))
            | (go_at_call 130; go_must ((with_reducible refine (HX0.out _ (HG2.out).sc).mono ?_); intro e w3 hq; obtain ⟨A, cp, rfl, hge, hs, hg, hty⟩ := hq; clear c0 c1 c2 c3 f1 f2 f3 r0 r1 r2 r3 z0 z1 z2 z3; have HG3 := Lib.hid (((HG2.out).call hs hg).labs hty (fun a ha => Nat.lt_of_lt_of_le (HG2.out).box.lt (hge a ha))); have c0 := HG3.out.box.cell 0; have c1 := HG3.out.box.cell 1; have c2 := HG3.out.box.cell 2; have c3 := HG3.out.box.cell 3; have f1 := HG3.out.box.frozen 1; have f2 := HG3.out.box.frozen 2; have f3 := HG3.out.box.frozen 3; have r0 := HG3.out.res.cell 0; have r1 := HG3.out.res.cell 1; have r2 := HG3.out.res.cell 2; have r3 := HG3.out.res.cell 3; have z0 := HG3.out.res.frozen 0; have z1 := HG3.out.res.frozen 1; have z2 := HG3.out.res.frozen 2; have z3 := HG3.out.res.frozen 3; simp only [List.getElem?_toArray, List.getElem?_cons_zero, List.getElem?_cons_succ] at c0 c1 c2 c3 r0 r1 r2 r3; clear hs hg hge hty)))
          exact ⟨rfl, rfl, gb_trans ((HG3.out.put 3 (.slice A v0.length cp) rfl)).gr HGE.out⟩
        | ok v1 k3 =>
          rw [Res.bind_ok]
          have HX1 := Lib.hid (fun W (h : Sc W p l k2) => show Calls Tryz.prog 131 #[.pointer (some ⟨p, 0, none⟩)] W (Did enc64 p l W (.ok v1 k3)) from by have := hX1 W h; rw [hr1] at this; exact this)
          clear hX1 hr1
          go_enter Tryz.func110, Tryz.ntmps110
          go_wp2_with (first
            | (go_at_call 127; go_must ((with_reducible refine HOP.out.mono ?_); rintro e w1 ⟨rfl, hs, hg⟩; have HG1 := Lib.hid (HST.out w1 hs hg); have hh := HG1.out.h2; have n1 : ¬ w1.heap.size = w.heap.size := (by omega); have n2 : ¬ w.heap.size = w1.heap.size := (by omega); clear hs hg hh))
            | (go_at_call 128; go_must ((with_reducible refine (HI.out _ HG1.out.tb.tabs).mono ?_); rintro e w2 ⟨rfl, hb⟩; unfold infV; have HG2 := Lib.hid (HG1.out.below hb); have c0 := HG2.out.box.cell 0; have c1 := HG2.out.box.cell 1; have c2 := HG2.out.box.cell 2; have c3 := HG2.out.box.cell 3; have f1 := HG2.out.box.frozen 1; have f2 := HG2.out.box.frozen 2; have f3 := HG2.out.box.frozen 3; have r0 := HG2.out.res.cell 0; have r1 := HG2.out.res.cell 1; have r2 := HG2.out.res.cell 2; have r3 := HG2.out.res.cell 3; have z0 := HG2.out.res.frozen 0; have z1 := HG2.out.res.frozen 1; have z2 := HG2.out.res.frozen 2; have z3 := HG2.out.res.frozen 3; simp only [List.getElem?_toArray, List.getElem?_cons_zero, List.getElem?_cons_succ] at c0 c1 c2 c3 r0 r1 r2 r3; clear hb))
            | (have tok := HG3; go_at_call 131; go_must ((with_reducible refine (HX1.out _ ((HG3.out.put 3 (.slice A v0.length cp) rfl)).sc).mono ?_); rintro e w4 ⟨rfl, hs, hg⟩; clear c0 c1 c2 c3 f1 f2 f3 r0 r1 r2 r3 z0 z1 z2 z3; have HG4 := Lib.hid (((HG3.out.put 3 (.slice A v0.length cp) rfl)).call hs hg); have c0 := HG4.out.box.cell 0; have c1 := HG4.out.box.cell 1; have c2 := HG4.out.box.cell 2; have c3 := HG4.out.box.cell 3; have f1 := HG4.out.box.frozen 1; have f2 := HG4.out.box.frozen 2; have f3 := HG4.out.box.frozen 3; have r0 := HG4.out.res.cell 0; have r1 := HG4.out.res.cell 1; have r2 := HG4.out.res.cell 2; have r3 := HG4.out.res.cell 3; have z0 := HG4.out.res.frozen 0; have z1 := HG4.out.res.frozen 1; have z2 := HG4.out.res.frozen 2; have z3 := HG4.out.res.frozen 3; simp only [List.getElem?_toArray, List.getElem?_cons_zero, List.getElem?_cons_succ] at c0 c1 c2 c3 r0 r1 r2 r3; clear hs hg))
            | (go_at_call 130; go_must ((with_reducible refine (HX0.out _ (HG2.out).sc).mono ?_); intro e w3 hq; obtain ⟨A, cp, rfl, hge, hs, hg, hty⟩ := hq; clear c0 c1 c2 c3 f1 f2 f3 r0 r1 r2 r3 z0 z1 z2 z3; have HG3 := Lib.hid (((HG2.out).call hs hg).labs hty (fun a ha => Nat.lt_of_lt_of_le (HG2.out).box.lt (hge a ha))); have c0 := HG3.out.box.cell 0; have c1 := HG3.out.box.cell 1; have c2 := HG3.out.box.cell 2; have c3 := HG3.out.box.cell 3; have f1 := HG3.out.box.frozen 1; have f2 := HG3.out.box.frozen 2; have f3 := HG3.out.box.frozen 3; have r0 := HG3.out.res.cell 0; have r1 := HG3.out.res.cell 1; have r2 := HG3.out.res.cell 2; have r3 := HG3.out.res.cell 3; have z0 := HG3.out.res.frozen 0; have z1 := HG3.out.res.frozen 1; have z2 := HG3.out.res.frozen 2; have z3 := HG3.out.res.frozen 3; simp only [List.getElem?_toArray, List.getElem?_cons_zero, List.getElem?_cons_succ] at c0 c1 c2 c3 r0 r1 r2 r3; clear hs hg hge hty)))
          obtain ⟨q, hf⟩ := GSt.fin ((HG4.out.put 1 (.int .u64 v1) rfl)) (.int .u8 c.toNat) (.int .u64 v1) (.int .u64 0) (.slice A v0.length cp) _ rfl
          have q0 := q.cell 0
          have q1 := q.cell 1
          have q2 := q.cell 2
          have q3 := q.cell 3
          simp only [List.getElem?_toArray, List.getElem?_cons_zero, List.getElem?_cons_succ] at q0 q1 q2 q3
          exact bodyPost_ret (v := insV (⟨c, v1, 0, v0⟩ : I) A cp) (by simp [results, Tryz.results110, go_sem, q0, q1, q2, q3]) rfl (gets_end (i := (⟨c, v1, 0, v0⟩ : I)) ((HG4.out.put 1 (.int .u64 v1) rfl)) hf rfl rfl)
    have d3 : ((m : Int) == 3) = false := by simp; omega
    by_cases m5 : m = 5
    · subst m5
      rw [show bodyR 5 c l k1 = (indexR l k1).bind fun a k1 => (noughtR l k1).bind fun _ k2 => .ok ⟨c, a, 0, []⟩ k2 from by unfold bodyR; rw [if_neg (by omega), if_neg (by omega), if_neg (by omega), if_pos rfl]]
      have hX0 := fun W (h : Sc W p l k1) => getNumber_any h
      cases hr0 : indexR l k1 with
      | err ec ea =>
        rw [Res.bind_err]
        show Calls _ _ _ _ (fun e w' => e = .panicked (stopP ec ea) ∧ w.grownBy w' (some p))
        have HX0 := Lib.hid (fun W (h : Sc W p l k1) => show Calls Tryz.prog 131 #[.pointer (some ⟨p, 0, none⟩)] W (Did enc64 p l W (.err ec ea)) from by have := hX0 W h; rw [hr0] at this; exact this)
        clear hX0 hr0
        go_enter Tryz.func110, Tryz.ntmps110
        go_wp2_with (first
          | (go_at_call 127; go_must ((with_reducible refine HOP.out.mono ?_); rintro e w1 ⟨rfl, hs, hg⟩; have HG1 := Lib.hid (HST.out w1 hs hg); have hh := HG1.out.h2; have n1 : ¬ w1.heap.size = w.heap.size := (by omega); have n2 : ¬ w.heap.size = w1.heap.size := (by omega); clear hs hg hh))
          | (go_at_call 128; go_must ((with_reducible refine (HI.out _ HG1.out.tb.tabs).mono ?_); rintro e w2 ⟨rfl, hb⟩; unfold infV; have HG2 := Lib.hid (HG1.out.below hb); have c0 := HG2.out.box.cell 0; have c1 := HG2.out.box.cell 1; have c2 := HG2.out.box.cell 2; have c3 := HG2.out.box.cell 3; have f1 := HG2.out.box.frozen 1; have f2 := HG2.out.box.frozen 2; have f3 := HG2.out.box.frozen 3; have r0 := HG2.out.res.cell 0; have r1 := HG2.out.res.cell 1; have r2 := HG2.out.res.cell 2; have r3 := HG2.out.res.cell 3; have z0 := HG2.out.res.frozen 0; have z1 := HG2.out.res.frozen 1; have z2 := HG2.out.res.frozen 2; have z3 := HG2.out.res.frozen 3; simp only [List.getElem?_toArray, List.getElem?_cons_zero, List.getElem?_cons_succ] at c0 c1 c2 c3 r0 r1 r2 r3; clear hb))
          | (go_at_call 131; go_must ((with_reducible refine (HX0.out _ (HG2.out).sc).mono ?_); rintro e w3 ⟨rfl, hg⟩; have HGE := Lib.hid hg; clear hg)))
        exact ⟨rfl, rfl, gb_trans (HG2.out).gr HGE.out⟩
      | ok v0 k2 =>
        rw [Res.bind_ok]
        have HX0 := Lib.hid (fun W (h : Sc W p l k1) => show Calls Tryz.prog 131 #[.pointer (some ⟨p, 0, none⟩)] W (Did enc64 p l W (.ok v0 k2)) from by have := hX0 W h; rw [hr0] at this; exact this)
        clear hX0 hr0
        have hX1 := fun W (h : Sc W p l k2) => getNought_any h
        cases hr1 : noughtR l k2 with
        | err ec ea =>
          rw [Res.bind_err]
          show Calls _ _ _ _ (fun e w' => e = .panicked (stopP ec ea) ∧ w.grownBy w' (some p))
          have HX1 := Lib.hid (fun W (h : Sc W p l k2) => show Calls Tryz.prog 115 #[.pointer (some ⟨p, 0, none⟩)] W (Did encU p l W (.err ec ea)) from by have := hX1 W h; rw [hr1] at this; exact this)
          clear hX1 hr1
          go_enter Tryz.func110, Tryz.ntmps110
          go_wp2_with (first
            | (go_at_call 127; go_must ((with_reducible refine HOP.out.mono ?_); rintro e w1 ⟨rfl, hs, hg⟩; have HG1 := Lib.hid (HST.out w1 hs hg); have hh := HG1.out.h2; have n1 : ¬ w1.heap.size = w.heap.size := (by omega); have n2 : ¬ w.heap.size = w1.heap.size := (by omega); clear hs hg hh))
            | (go_at_call 128; go_must ((with_reducible refine (HI.out _ HG1.out.tb.tabs).mono ?_); rintro e w2 ⟨rfl, hb⟩; unfold infV; have HG2 := Lib.hid (HG1.out.below hb); have c0 := HG2.out.box.cell 0; have c1 := HG2.out.box.cell 1; have c2 := HG2.out.box.cell 2; have c3 := HG2.out.box.cell 3; have f1 := HG2.out.box.frozen 1; have f2 := HG2.out.box.frozen 2; have f3 := HG2.out.box.frozen 3; have r0 := HG2.out.res.cell 0; have r1 := HG2.out.res.cell 1; have r2 := HG2.out.res.cell 2; have r3 := HG2.out.res.cell 3; have z0 := HG2.out.res.frozen 0; have z1 := HG2.out.res.frozen 1; have z2 := HG2.out.res.frozen 2; have z3 := HG2.out.res.frozen 3; simp only [List.getElem?_toArray, List.getElem?_cons_zero, List.getElem?_cons_succ] at c0 c1 c2 c3 r0 r1 r2 r3; clear hb))
            | (have tok := HG3; go_at_call 115; go_must ((with_reducible refine (HX1.out _ ((HG3.out.put 1 (.int .u64 v0) rfl)).sc).mono ?_); rintro e w4 ⟨rfl, hg⟩; have HGE := Lib.hid hg; clear hg))
            | (go_at_call 131; go_must ((with_reducible refine (HX0.out _ (HG2.out).sc).mono ?_); rintro e w3 ⟨rfl, hs, hg⟩; clear c0 c1 c2 c3 f1 f2 f3 r0 r1 r2 r3 z0 z1 z2 z3; have HG3 := Lib.hid ((HG2.out).call hs hg); have c0 := HG3.out.box.cell 0; have c1 := HG3.out.box.cell 1; have c2 := HG3.out.box.cell 2; have c3 := HG3.out.box.cell 3; have f1 := HG3.out.box.frozen 1; have f2 := HG3.out.box.frozen 2; have f3 := HG3.out.box.frozen 3; have r0 := HG3.out.res.cell 0; have r1 := HG3.out.res.cell 1; have r2 := HG3.out.res.cell 2; have r3 := HG3.out.res.cell 3; have z0 := HG3.out.res.frozen 0; have z1 := HG3.out.res.frozen 1; have z2 := HG3.out.res.frozen 2; have z3 := HG3.out.res.frozen 3; simp only [List.getElem?_toArray, List.getElem?_cons_zero, List.getElem?_cons_succ] at c0 c1 c2 c3 r0 r1 r2 r3; clear hs hg)))
          exact ⟨rfl, rfl, gb_trans ((HG3.out.put 1 (.int .u64 v0) rfl)).gr HGE.out⟩
        | ok v1 k3 =>
          rw [Res.bind_ok]
          have HX1 := Lib.hid (fun W (h : Sc W p l k2) => show Calls Tryz.prog 115 #[.pointer (some ⟨p, 0, none⟩)] W (Did encU p l W (.ok v1 k3)) from by have := hX1 W h; rw [hr1] at this; exact this)
          clear hX1 hr1
          go_enter Tryz.func110, Tryz.ntmps110
          go_wp2_with (first
            | (go_at_call 127; go_must ((with_reducible refine HOP.out.mono ?_); rintro e w1 ⟨rfl, hs, hg⟩; have HG1 := Lib.hid (HST.out w1 hs hg); have hh := HG1.out.h2; have n1 : ¬ w1.heap.size = w.heap.size := (by omega); have n2 : ¬ w.heap.size = w1.heap.size := (by omega); clear hs hg hh))
            | (go_at_call 128; go_must ((with_reducible refine (HI.out _ HG1.out.tb.tabs).mono ?_); rintro e w2 ⟨rfl, hb⟩; unfold infV; have HG2 := Lib.hid (HG1.out.below hb); have c0 := HG2.out.box.cell 0; have c1 := HG2.out.box.cell 1; have c2 := HG2.out.box.cell 2; have c3 := HG2.out.box.cell 3; have f1 := HG2.out.box.frozen 1; have f2 := HG2.out.box.frozen 2; have f3 := HG2.out.box.frozen 3; have r0 := HG2.out.res.cell 0; have r1 := HG2.out.res.cell 1; have r2 := HG2.out.res.cell 2; have r3 := HG2.out.res.cell 3; have z0 := HG2.out.res.frozen 0; have z1 := HG2.out.res.frozen 1; have z2 := HG2.out.res.frozen 2; have z3 := HG2.out.res.frozen 3; simp only [List.getElem?_toArray, List.getElem?_cons_zero, List.getElem?_cons_succ] at c0 c1 c2 c3 r0 r1 r2 r3; clear hb))
            | (have tok := HG3; go_at_call 115; go_must ((with_reducible refine (HX1.out _ ((HG3.out.put 1 (.int .u64 v0) rfl)).sc).mono ?_); rintro e w4 ⟨rfl, hs, hg⟩; clear c0 c1 c2 c3 f1 f2 f3 r0 r1 r2 r3 z0 z1 z2 z3; have HG4 := Lib.hid (((HG3.out.put 1 (.int .u64 v0) rfl)).call hs hg); have c0 := HG4.out.box.cell 0; have c1 := HG4.out.box.cell 1; have c2 := HG4.out.box.cell 2; have c3 := HG4.out.box.cell 3; have f1 := HG4.out.box.frozen 1; have f2 := HG4.out.box.frozen 2; have f3 := HG4.out.box.frozen 3; have r0 := HG4.out.res.cell 0; have r1 := HG4.out.res.cell 1; have r2 := HG4.out.res.cell 2; have r3 := HG4.out.res.cell 3; have z0 := HG4.out.res.frozen 0; have z1 := HG4.out.res.frozen 1; have z2 := HG4.out.res.frozen 2; have z3 := HG4.out.res.frozen 3; simp only [List.getElem?_toArray, List.getElem?_cons_zero, List.getElem?_cons_succ] at c0 c1 c2 c3 r0 r1 r2 r3; clear hs hg))
            | (go_at_call 131; go_must ((with_reducible refine (HX0.out _ (HG2.out).sc).mono ?_); rintro e w3 ⟨rfl, hs, hg⟩; clear c0 c1 c2 c3 f1 f2 f3 r0 r1 r2 r3 z0 z1 z2 z3; have HG3 := Lib.hid ((HG2.out).call hs hg); have c0 := HG3.out.box.cell 0; have c1 := HG3.out.box.cell 1; have c2 := HG3.out.box.cell 2; have c3 := HG3.out.box.cell 3; have f1 := HG3.out.box.frozen 1; have f2 := HG3.out.box.frozen 2; have f3 := HG3.out.box.frozen 3; have r0 := HG3.out.res.cell 0; have r1 := HG3.out.res.cell 1; have r2 := HG3.out.res.cell 2; have r3 := HG3.out.res.cell 3; have z0 := HG3.out.res.frozen 0; have z1 := HG3.out.res.frozen 1; have z2 := HG3.out.res.frozen 2; have z3 := HG3.out.res.frozen 3; simp only [List.getElem?_toArray, List.getElem?_cons_zero, List.getElem?_cons_succ] at c0 c1 c2 c3 r0 r1 r2 r3; clear hs hg)))
          obtain ⟨q, hf⟩ := GSt.fin (HG4.out) (.int .u8 c.toNat) (.int .u64 v0) (.int .u64 0) (.slice none 0 0) _ rfl
          have q0 := q.cell 0
          have q1 := q.cell 1
          have q2 := q.cell 2
          have q3 := q.cell 3
          simp only [List.getElem?_toArray, List.getElem?_cons_zero, List.getElem?_cons_succ] at q0 q1 q2 q3
          exact bodyPost_ret (v := insV (⟨c, v0, 0, []⟩ : I) none 0) (by simp [results, Tryz.results110, go_sem, q0, q1, q2, q3]) rfl (gets_end (i := (⟨c, v0, 0, []⟩ : I)) (HG4.out) hf rfl rfl)
    have d5 : ((m : Int) == 5) = false := by simp; omega
    by_cases m8 : m = 8
    · subst m8
      rw [show bodyR 8 c l k1 = (indexR l k1).bind fun a k1 => (indexR l k1).bind fun b k2 => .ok ⟨c, a, b, []⟩ k2 from by unfold bodyR; rw [if_neg (by omega), if_neg (by omega), if_neg (by omega), if_neg (by omega), if_pos rfl]]
      have hX0 := fun W (h : Sc W p l k1) => getNumber_any h
      cases hr0 : indexR l k1 with
      | err ec ea =>
        rw [Res.bind_err]
        show Calls _ _ _ _ (fun e w' => e = .panicked (stopP ec ea) ∧ w.grownBy w' (some p))
        have HX0 := Lib.hid (fun W (h : Sc W p l k1) => show Calls Tryz.prog 131 #[.pointer (some ⟨p, 0, none⟩)] W (Did enc64 p l W (.err ec ea)) from by have := hX0 W h; rw [hr0] at this; exact this)
        clear hX0 hr0
        go_enter Tryz.func110, Tryz.ntmps110
        go_wp2_with (first
          | (go_at_call 127; go_must ((with_reducible refine HOP.out.mono ?_); rintro e w1 ⟨rfl, hs, hg⟩; have HG1 := Lib.hid (HST.out w1 hs hg); have hh := HG1.out.h2; have n1 : ¬ w1.heap.size = w.heap.size := (by omega); have n2 : ¬ w.heap.size = w1.heap.size := (by omega); clear hs hg hh))
          | (go_at_call 128; go_must ((with_reducible refine (HI.out _ HG1.out.tb.tabs).mono ?_); rintro e w2 ⟨rfl, hb⟩; unfold infV; have HG2 := Lib.hid (HG1.out.below hb); have c0 := HG2.out.box.cell 0; have c1 := HG2.out.box.cell 1; have c2 := HG2.out.box.cell 2; have c3 := HG2.out.box.cell 3; have f1 := HG2.out.box.frozen 1; have f2 := HG2.out.box.frozen 2; have f3 := HG2.out.box.frozen 3; have r0 := HG2.out.res.cell 0; have r1 := HG2.out.res.cell 1; have r2 := HG2.out.res.cell 2; have r3 := HG2.out.res.cell 3; have z0 := HG2.out.res.frozen 0; have z1 := HG2.out.res.frozen 1; have z2 := HG2.out.res.frozen 2; have z3 := HG2.out.res.frozen 3; simp only [List.getElem?_toArray, List.getElem?_cons_zero, List.getElem?_cons_succ] at c0 c1 c2 c3 r0 r1 r2 r3; clear hb))
          | (go_at_call 131; go_must ((with_reducible refine (HX0.out _ (HG2.out).sc).mono ?_); rintro e w3 ⟨rfl, hg⟩; have HGE := Lib.hid hg; clear hg)))
        exact ⟨rfl, rfl, gb_trans (HG2.out).gr HGE.out⟩
      | ok v0 k2 =>
        rw [Res.bind_ok]
        have HX0 := Lib.hid (fun W (h : Sc W p l k1) => show Calls Tryz.prog 131 #[.pointer (some ⟨p, 0, none⟩)] W (Did enc64 p l W (.ok v0 k2)) from by have := hX0 W h; rw [hr0] at this; exact this)
        clear hX0 hr0
        have hX1 := fun W (h : Sc W p l k2) => getNumber_any h
        cases hr1 : indexR l k2 with
        | err ec ea =>
          rw [Res.bind_err]
          show Calls _ _ _ _ (fun e w' => e = .panicked (stopP ec ea) ∧ w.grownBy w' (some p))
          have HX1 := Lib.hid (fun W (h : Sc W p l k2) => show Calls Tryz.prog 131 #[.pointer (some ⟨p, 0, none⟩)] W (Did enc64 p l W (.err ec ea)) from by have := hX1 W h; rw [hr1] at this; exact this)
          clear hX1 hr1
          go_enter Tryz.func110, Tryz.ntmps110
          go_wp2_with (first
            | (go_at_call 127; go_must ((with_reducible refine HOP.out.mono ?_); rintro e w1 ⟨rfl, hs, hg⟩; have HG1 := Lib.hid (HST.out w1 hs hg); have hh := HG1.out.h2; have n1 : ¬ w1.heap.size = w.heap.size := (by omega); have n2 : ¬ w.heap.size = w1.heap.size := (by omega); clear hs hg hh))
            | (go_at_call 128; go_must ((with_reducible refine (HI.out _ HG1.out.tb.tabs).mono ?_); rintro e w2 ⟨rfl, hb⟩; unfold infV; have HG2 := Lib.hid (HG1.out.below hb); have c0 := HG2.out.box.cell 0; have c1 := HG2.out.box.cell 1; have c2 := HG2.out.box.cell 2; have c3 := HG2.out.box.cell 3; have f1 := HG2.out.box.frozen 1; have f2 := HG2.out.box.frozen 2; have f3 := HG2.out.box.frozen 3; have r0 := HG2.out.res.cell 0; have r1 := HG2.out.res.cell 1; have r2 := HG2.out.res.cell 2; have r3 := HG2.out.res.cell 3; have z0 := HG2.out.res.frozen 0; have z1 := HG2.out.res.frozen 1; have z2 := HG2.out.res.frozen 2; have z3 := HG2.out.res.frozen 3; simp only [List.getElem?_toArray, List.getElem?_cons_zero, List.getElem?_cons_succ] at c0 c1 c2 c3 r0 r1 r2 r3; clear hb))
            | (have tok := HG3; go_at_call 131; go_must ((with_reducible refine (HX1.out _ ((HG3.out.put 1 (.int .u64 v0) rfl)).sc).mono ?_); rintro e w4 ⟨rfl, hg⟩; have HGE := Lib.hid hg; clear hg))
            | (go_at_call 131; go_must ((with_reducible refine (HX0.out _ (HG2.out).sc).mono ?_); rintro e w3 ⟨rfl, hs, hg⟩; clear c0 c1 c2 c3 f1 f2 f3 r0 r1 r2 r3 z0 z1 z2 z3; have HG3 := Lib.hid ((HG2.out).call hs hg); have c0 := HG3.out.box.cell 0; have c1 := HG3.out.box.cell 1; have c2 := HG3.out.box.cell 2; have c3 := HG3.out.box.cell 3; have f1 := HG3.out.box.frozen 1; have f2 := HG3.out.box.frozen 2; have f3 := HG3.out.box.frozen 3; have r0 := HG3.out.res.cell 0; have r1 := HG3.out.res.cell 1; have r2 := HG3.out.res.cell 2; have r3 := HG3.out.res.cell 3; have z0 := HG3.out.res.frozen 0; have z1 := HG3.out.res.frozen 1; have z2 := HG3.out.res.frozen 2; have z3 := HG3.out.res.frozen 3; simp only [List.getElem?_toArray, List.getElem?_cons_zero, List.getElem?_cons_succ] at c0 c1 c2 c3 r0 r1 r2 r3; clear hs hg)))
          exact ⟨rfl, rfl, gb_trans ((HG3.out.put 1 (.int .u64 v0) rfl)).gr HGE.out⟩
        | ok v1 k3 =>
          rw [Res.bind_ok]
          have HX1 := Lib.hid (fun W (h : Sc W p l k2) => show Calls Tryz.prog 131 #[.pointer (some ⟨p, 0, none⟩)] W (Did enc64 p l W (.ok v1 k3)) from by have := hX1 W h; rw [hr1] at this; exact this)
          clear hX1 hr1
          go_enter Tryz.func110, Tryz.ntmps110
          go_wp2_with (first
            | (go_at_call 127; go_must ((with_reducible refine HOP.out.mono ?_); rintro e w1 ⟨rfl, hs, hg⟩; have HG1 := Lib.hid (HST.out w1 hs hg); have hh := HG1.out.h2; have n1 : ¬ w1.heap.size = w.heap.size := (by omega); have n2 : ¬ w.heap.size = w1.heap.size := (by omega); clear hs hg hh))
            | (go_at_call 128; go_must ((with_reducible refine (HI.out _ HG1.out.tb.tabs).mono ?_); rintro e w2 ⟨rfl, hb⟩; unfold infV; have HG2 := Lib.hid (HG1.out.below hb); have c0 := HG2.out.box.cell 0; have c1 := HG2.out.box.cell 1; have c2 := HG2.out.box.cell 2; have c3 := HG2.out.box.cell 3; have f1 := HG2.out.box.frozen 1; have f2 := HG2.out.box.frozen 2; have f3 := HG2.out.box.frozen 3; have r0 := HG2.out.res.cell 0; have r1 := HG2.out.res.cell 1; have r2 := HG2.out.res.cell 2; have r3 := HG2.out.res.cell 3; have z0 := HG2.out.res.frozen 0; have z1 := HG2.out.res.frozen 1; have z2 := HG2.out.res.frozen 2; have z3 := HG2.out.res.frozen 3; simp only [List.getElem?_toArray, List.getElem?_cons_zero, List.getElem?_cons_succ] at c0 c1 c2 c3 r0 r1 r2 r3; clear hb))
            | (have tok := HG3; go_at_call 131; go_must ((with_reducible refine (HX1.out _ ((HG3.out.put 1 (.int .u64 v0) rfl)).sc).mono ?_); rintro e w4 ⟨rfl, hs, hg⟩; clear c0 c1 c2 c3 f1 f2 f3 r0 r1 r2 r3 z0 z1 z2 z3; have HG4 := Lib.hid (((HG3.out.put 1 (.int .u64 v0) rfl)).call hs hg); have c0 := HG4.out.box.cell 0; have c1 := HG4.out.box.cell 1; have c2 := HG4.out.box.cell 2; have c3 := HG4.out.box.cell 3; have f1 := HG4.out.box.frozen 1; have f2 := HG4.out.box.frozen 2; have f3 := HG4.out.box.frozen 3; have r0 := HG4.out.res.cell 0; have r1 := HG4.out.res.cell 1; have r2 := HG4.out.res.cell 2; have r3 := HG4.out.res.cell 3; have z0 := HG4.out.res.frozen 0; have z1 := HG4.out.res.frozen 1; have z2 := HG4.out.res.frozen 2; have z3 := HG4.out.res.frozen 3; simp only [List.getElem?_toArray, List.getElem?_cons_zero, List.getElem?_cons_succ] at c0 c1 c2 c3 r0 r1 r2 r3; clear hs hg))
            | (go_at_call 131; go_must ((with_reducible refine (HX0.out _ (HG2.out).sc).mono ?_); rintro e w3 ⟨rfl, hs, hg⟩; clear c0 c1 c2 c3 f1 f2 f3 r0 r1 r2 r3 z0 z1 z2 z3; have HG3 := Lib.hid ((HG2.out).call hs hg); have c0 := HG3.out.box.cell 0; have c1 := HG3.out.box.cell 1; have c2 := HG3.out.box.cell 2; have c3 := HG3.out.box.cell 3; have f1 := HG3.out.box.frozen 1; have f2 := HG3.out.box.frozen 2; have f3 := HG3.out.box.frozen 3; have r0 := HG3.out.res.cell 0; have r1 := HG3.out.res.cell 1; have r2 := HG3.out.res.cell 2; have r3 := HG3.out.res.cell 3; have z0 := HG3.out.res.frozen 0; have z1 := HG3.out.res.frozen 1; have z2 := HG3.out.res.frozen 2; have z3 := HG3.out.res.frozen 3; simp only [List.getElem?_toArray, List.getElem?_cons_zero, List.getElem?_cons_succ] at c0 c1 c2 c3 r0 r1 r2 r3; clear hs hg)))
          obtain ⟨q, hf⟩ := GSt.fin ((HG4.out.put 2 (.int .u64 v1) rfl)) (.int .u8 c.toNat) (.int .u64 v0) (.int .u64 v1) (.slice none 0 0) _ rfl
          have q0 := q.cell 0
          have q1 := q.cell 1
          have q2 := q.cell 2
          have q3 := q.cell 3
          simp only [List.getElem?_toArray, List.getElem?_cons_zero, List.getElem?_cons_succ] at q0 q1 q2 q3
          exact bodyPost_ret (v := insV (⟨c, v0, v1, []⟩ : I) none 0) (by simp [results, Tryz.results110, go_sem, q0, q1, q2, q3]) rfl (gets_end (i := (⟨c, v0, v1, []⟩ : I)) ((HG4.out.put 2 (.int .u64 v1) rfl)) hf rfl rfl)
    have d8 : ((m : Int) == 8) = false := by simp; omega
    by_cases m9 : m = 9
    · subst m9
      rw [show bodyR 9 c l k1 = (noughtR l k1).bind fun _ k1 => .ok ⟨c, 0, 0, []⟩ k1 from by unfold bodyR; rw [if_neg (by omega), if_neg (by omega), if_neg (by omega), if_neg (by omega), if_neg (by omega), if_pos rfl]]
      have hX0 := fun W (h : Sc W p l k1) => getNought_any h
      cases hr0 : noughtR l k1 with
      | err ec ea =>
        rw [Res.bind_err]
        show Calls _ _ _ _ (fun e w' => e = .panicked (stopP ec ea) ∧ w.grownBy w' (some p))
        have HX0 := Lib.hid (fun W (h : Sc W p l k1) => show Calls Tryz.prog 115 #[.pointer (some ⟨p, 0, none⟩)] W (Did encU p l W (.err ec ea)) from by have := hX0 W h; rw [hr0] at this; exact this)
        clear hX0 hr0
        go_enter Tryz.func110, Tryz.ntmps110
        go_wp2_with (first
          | (go_at_call 127; go_must ((with_reducible refine HOP.out.mono ?_); rintro e w1 ⟨rfl, hs, hg⟩; have HG1 := Lib.hid (HST.out w1 hs hg); have hh := HG1.out.h2; have n1 : ¬ w1.heap.size = w.heap.size := (by omega); have n2 : ¬ w.heap.size = w1.heap.size := (by omega); clear hs hg hh))
          | (go_at_call 128; go_must ((with_reducible refine (HI.out _ HG1.out.tb.tabs).mono ?_); rintro e w2 ⟨rfl, hb⟩; unfold infV; have HG2 := Lib.hid (HG1.out.below hb); have c0 := HG2.out.box.cell 0; have c1 := HG2.out.box.cell 1; have c2 := HG2.out.box.cell 2; have c3 := HG2.out.box.cell 3; have f1 := HG2.out.box.frozen 1; have f2 := HG2.out.box.frozen 2; have f3 := HG2.out.box.frozen 3; have r0 := HG2.out.res.cell 0; have r1 := HG2.out.res.cell 1; have r2 := HG2.out.res.cell 2; have r3 := HG2.out.res.cell 3; have z0 := HG2.out.res.frozen 0; have z1 := HG2.out.res.frozen 1; have z2 := HG2.out.res.frozen 2; have z3 := HG2.out.res.frozen 3; simp only [List.getElem?_toArray, List.getElem?_cons_zero, List.getElem?_cons_succ] at c0 c1 c2 c3 r0 r1 r2 r3; clear hb))
          | (go_at_call 115; go_must ((with_reducible refine (HX0.out _ (HG2.out).sc).mono ?_); rintro e w3 ⟨rfl, hg⟩; have HGE := Lib.hid hg; clear hg)))
        exact ⟨rfl, rfl, gb_trans (HG2.out).gr HGE.out⟩
      | ok v0 k2 =>
        rw [Res.bind_ok]
        have HX0 := Lib.hid (fun W (h : Sc W p l k1) => show Calls Tryz.prog 115 #[.pointer (some ⟨p, 0, none⟩)] W (Did encU p l W (.ok v0 k2)) from by have := hX0 W h; rw [hr0] at this; exact this)
        clear hX0 hr0
        go_enter Tryz.func110, Tryz.ntmps110
        go_wp2_with (first
          | (go_at_call 127; go_must ((with_reducible refine HOP.out.mono ?_); rintro e w1 ⟨rfl, hs, hg⟩; have HG1 := Lib.hid (HST.out w1 hs hg); have hh := HG1.out.h2; have n1 : ¬ w1.heap.size = w.heap.size := (by omega); have n2 : ¬ w.heap.size = w1.heap.size := (by omega); clear hs hg hh))
          | (go_at_call 128; go_must ((with_reducible refine (HI.out _ HG1.out.tb.tabs).mono ?_); rintro e w2 ⟨rfl, hb⟩; unfold infV; have HG2 := Lib.hid (HG1.out.below hb); have c0 := HG2.out.box.cell 0; have c1 := HG2.out.box.cell 1; have c2 := HG2.out.box.cell 2; have c3 := HG2.out.box.cell 3; have f1 := HG2.out.box.frozen 1; have f2 := HG2.out.box.frozen 2; have f3 := HG2.out.box.frozen 3; have r0 := HG2.out.res.cell 0; have r1 := HG2.out.res.cell 1; have r2 := HG2.out.res.cell 2; have r3 := HG2.out.res.cell 3; have z0 := HG2.out.res.frozen 0; have z1 := HG2.out.res.frozen 1; have z2 := HG2.out.res.frozen 2; have z3 := HG2.out.res.frozen 3; simp only [List.getElem?_toArray, List.getElem?_cons_zero, List.getElem?_cons_succ] at c0 c1 c2 c3 r0 r1 r2 r3; clear hb))
          | (go_at_call 115; go_must ((with_reducible refine (HX0.out _ (HG2.out).sc).mono ?_); rintro e w3 ⟨rfl, hs, hg⟩; clear c0 c1 c2 c3 f1 f2 f3 r0 r1 r2 r3 z0 z1 z2 z3; have HG3 := Lib.hid ((HG2.out).call hs hg); have c0 := HG3.out.box.cell 0; have c1 := HG3.out.box.cell 1; have c2 := HG3.out.box.cell 2; have c3 := HG3.out.box.cell 3; have f1 := HG3.out.box.frozen 1; have f2 := HG3.out.box.frozen 2; have f3 := HG3.out.box.frozen 3; have r0 := HG3.out.res.cell 0; have r1 := HG3.out.res.cell 1; have r2 := HG3.out.res.cell 2; have r3 := HG3.out.res.cell 3; have z0 := HG3.out.res.frozen 0; have z1 := HG3.out.res.frozen 1; have z2 := HG3.out.res.frozen 2; have z3 := HG3.out.res.frozen 3; simp only [List.getElem?_toArray, List.getElem?_cons_zero, List.getElem?_cons_succ] at c0 c1 c2 c3 r0 r1 r2 r3; clear hs hg)))
        obtain ⟨q, hf⟩ := GSt.fin (HG3.out) (.int .u8 c.toNat) (.int .u64 0) (.int .u64 0) (.slice none 0 0) _ rfl
        have q0 := q.cell 0
        have q1 := q.cell 1
        have q2 := q.cell 2
        have q3 := q.cell 3
        simp only [List.getElem?_toArray, List.getElem?_cons_zero, List.getElem?_cons_succ] at q0 q1 q2 q3
        exact bodyPost_ret (v := insV (⟨c, 0, 0, []⟩ : I) none 0) (by simp [results, Tryz.results110, go_sem, q0, q1, q2, q3]) rfl (gets_end (i := (⟨c, 0, 0, []⟩ : I)) (HG3.out) hf rfl rfl)
    have d9 : ((m : Int) == 9) = false := by simp; omega
    by_cases m10 : m = 10
    · subst m10
      rw [show bodyR 10 c l k1 = (intR l k1 32).bind fun v k1 => .ok ⟨c, v % 4294967296, 0, []⟩ k1 from by unfold bodyR; rw [if_neg (by omega), if_neg (by omega), if_neg (by omega), if_neg (by omega), if_neg (by omega), if_neg (by omega), if_pos rfl]]
      have hX0 := fun W (h : Sc W p l k1) => int_any2 h 32
      cases hr0 : intR l k1 32 with
      | err ec ea =>
        rw [Res.bind_err]
        show Calls _ _ _ _ (fun e w' => e = .panicked (stopP ec ea) ∧ w.grownBy w' (some p))
        have HX0 := Lib.hid (fun W (h : Sc W p l k1) => show Calls Tryz.prog 132 #[.pointer (some ⟨p, 0, none⟩), .int .i64 32] W (Did encS64 p l W (.err ec ea)) from by have := hX0 W h; rw [hr0] at this; exact this)
        clear hX0 hr0
        go_enter Tryz.func110, Tryz.ntmps110
        go_wp2_with (first
          | (go_at_call 127; go_must ((with_reducible refine HOP.out.mono ?_); rintro e w1 ⟨rfl, hs, hg⟩; have HG1 := Lib.hid (HST.out w1 hs hg); have hh := HG1.out.h2; have n1 : ¬ w1.heap.size = w.heap.size := (by omega); have n2 : ¬ w.heap.size = w1.heap.size := (by omega); clear hs hg hh))
          | (go_at_call 128; go_must ((with_reducible refine (HI.out _ HG1.out.tb.tabs).mono ?_); rintro e w2 ⟨rfl, hb⟩; unfold infV; have HG2 := Lib.hid (HG1.out.below hb); have c0 := HG2.out.box.cell 0; have c1 := HG2.out.box.cell 1; have c2 := HG2.out.box.cell 2; have c3 := HG2.out.box.cell 3; have f1 := HG2.out.box.frozen 1; have f2 := HG2.out.box.frozen 2; have f3 := HG2.out.box.frozen 3; have r0 := HG2.out.res.cell 0; have r1 := HG2.out.res.cell 1; have r2 := HG2.out.res.cell 2; have r3 := HG2.out.res.cell 3; have z0 := HG2.out.res.frozen 0; have z1 := HG2.out.res.frozen 1; have z2 := HG2.out.res.frozen 2; have z3 := HG2.out.res.frozen 3; simp only [List.getElem?_toArray, List.getElem?_cons_zero, List.getElem?_cons_succ] at c0 c1 c2 c3 r0 r1 r2 r3; clear hb))
          | (go_at_call 132; go_must ((with_reducible refine (HX0.out _ (HG2.out).sc).mono ?_); rintro e w3 ⟨rfl, hg⟩; have HGE := Lib.hid hg; clear hg)))
        exact ⟨rfl, rfl, gb_trans (HG2.out).gr HGE.out⟩
      | ok v0 k2 =>
        rw [Res.bind_ok]
        have HX0 := Lib.hid (fun W (h : Sc W p l k1) => show Calls Tryz.prog 132 #[.pointer (some ⟨p, 0, none⟩), .int .i64 32] W (Did encS64 p l W (.ok v0 k2)) from by have := hX0 W h; rw [hr0] at this; exact this)
        clear hX0 hr0
        obtain ⟨x, hx⟩ : ∃ x, x = v0 % 4294967296 := ⟨_, rfl⟩
        rw [← hx]
        have hw : IntKind.u32.wrap v0 = x := by rw [hx]; simp [IntKind.wrap, IntKind.bits, IntKind.signed]
        have hw2 : IntKind.u64.wrap x = x := by rw [hx]; simp [IntKind.wrap, IntKind.bits, IntKind.signed]; omega
        clear hx
        go_enter Tryz.func110, Tryz.ntmps110
        go_wp2_with (first
          | (go_at_call 127; go_must ((with_reducible refine HOP.out.mono ?_); rintro e w1 ⟨rfl, hs, hg⟩; have HG1 := Lib.hid (HST.out w1 hs hg); have hh := HG1.out.h2; have n1 : ¬ w1.heap.size = w.heap.size := (by omega); have n2 : ¬ w.heap.size = w1.heap.size := (by omega); clear hs hg hh))
          | (go_at_call 128; go_must ((with_reducible refine (HI.out _ HG1.out.tb.tabs).mono ?_); rintro e w2 ⟨rfl, hb⟩; unfold infV; have HG2 := Lib.hid (HG1.out.below hb); have c0 := HG2.out.box.cell 0; have c1 := HG2.out.box.cell 1; have c2 := HG2.out.box.cell 2; have c3 := HG2.out.box.cell 3; have f1 := HG2.out.box.frozen 1; have f2 := HG2.out.box.frozen 2; have f3 := HG2.out.box.frozen 3; have r0 := HG2.out.res.cell 0; have r1 := HG2.out.res.cell 1; have r2 := HG2.out.res.cell 2; have r3 := HG2.out.res.cell 3; have z0 := HG2.out.res.frozen 0; have z1 := HG2.out.res.frozen 1; have z2 := HG2.out.res.frozen 2; have z3 := HG2.out.res.frozen 3; simp only [List.getElem?_toArray, List.getElem?_cons_zero, List.getElem?_cons_succ] at c0 c1 c2 c3 r0 r1 r2 r3; clear hb))
          | (go_at_call 132; go_must ((with_reducible refine (HX0.out _ (HG2.out).sc).mono ?_); rintro e w3 ⟨rfl, hs, hg⟩; clear c0 c1 c2 c3 f1 f2 f3 r0 r1 r2 r3 z0 z1 z2 z3; have HG3 := Lib.hid ((HG2.out).call hs hg); have c0 := HG3.out.box.cell 0; have c1 := HG3.out.box.cell 1; have c2 := HG3.out.box.cell 2; have c3 := HG3.out.box.cell 3; have f1 := HG3.out.box.frozen 1; have f2 := HG3.out.box.frozen 2; have f3 := HG3.out.box.frozen 3; have r0 := HG3.out.res.cell 0; have r1 := HG3.out.res.cell 1; have r2 := HG3.out.res.cell 2; have r3 := HG3.out.res.cell 3; have z0 := HG3.out.res.frozen 0; have z1 := HG3.out.res.frozen 1; have z2 := HG3.out.res.frozen 2; have z3 := HG3.out.res.frozen 3; simp only [List.getElem?_toArray, List.getElem?_cons_zero, List.getElem?_cons_succ] at c0 c1 c2 c3 r0 r1 r2 r3; clear hs hg)))
        obtain ⟨q, hf⟩ := GSt.fin ((HG3.out.put 1 (.int .u64 x) rfl)) (.int .u8 c.toNat) (.int .u64 x) (.int .u64 0) (.slice none 0 0) _ rfl
        have q0 := q.cell 0
        have q1 := q.cell 1
        have q2 := q.cell 2
        have q3 := q.cell 3
        simp only [List.getElem?_toArray, List.getElem?_cons_zero, List.getElem?_cons_succ] at q0 q1 q2 q3
        exact bodyPost_ret (v := insV (⟨c, x, 0, []⟩ : I) none 0) (by simp [results, Tryz.results110, go_sem, q0, q1, q2, q3]) rfl (gets_end (i := (⟨c, x, 0, []⟩ : I)) ((HG3.out.put 1 (.int .u64 x) rfl)) hf rfl rfl)
    have d10 : ((m : Int) == 10) = false := by simp; omega
    by_cases m11 : m = 11
    · subst m11
      rw [show bodyR 11 c l k1 = (intR l k1 64).bind fun v k1 => .ok ⟨c, v % 18446744073709551616, 0, []⟩ k1 from by unfold bodyR; rw [if_neg (by omega), if_neg (by omega), if_neg (by omega), if_neg (by omega), if_neg (by omega), if_neg (by omega), if_neg (by omega), if_pos rfl]]
      have hX0 := fun W (h : Sc W p l k1) => int_any2 h 64
      cases hr0 : intR l k1 64 with
      | err ec ea =>
        rw [Res.bind_err]
        show Calls _ _ _ _ (fun e w' => e = .panicked (stopP ec ea) ∧ w.grownBy w' (some p))
        have HX0 := Lib.hid (fun W (h : Sc W p l k1) => show Calls Tryz.prog 132 #[.pointer (some ⟨p, 0, none⟩), .int .i64 64] W (Did encS64 p l W (.err ec ea)) from by have := hX0 W h; rw [hr0] at this; exact this)
        clear hX0 hr0
        go_enter Tryz.func110, Tryz.ntmps110
        go_wp2_with (first
          | (go_at_call 127; go_must ((with_reducible refine HOP.out.mono ?_); rintro e w1 ⟨rfl, hs, hg⟩; have HG1 := Lib.hid (HST.out w1 hs hg); have hh := HG1.out.h2; have n1 : ¬ w1.heap.size = w.heap.size := (by omega); have n2 : ¬ w.heap.size = w1.heap.size := (by omega); clear hs hg hh))
          | (go_at_call 128; go_must ((with_reducible refine (HI.out _ HG1.out.tb.tabs).mono ?_); rintro e w2 ⟨rfl, hb⟩; unfold infV; have HG2 := Lib.hid (HG1.out.below hb); have c0 := HG2.out.box.cell 0; have c1 := HG2.out.box.cell 1; have c2 := HG2.out.box.cell 2; have c3 := HG2.out.box.cell 3; have f1 := HG2.out.box.frozen 1; have f2 := HG2.out.box.frozen 2; have f3 := HG2.out.box.frozen 3; have r0 := HG2.out.res.cell 0; have r1 := HG2.out.res.cell 1; have r2 := HG2.out.res.cell 2; have r3 := HG2.out.res.cell 3; have z0 := HG2.out.res.frozen 0; have z1 := HG2.out.res.frozen 1; have z2 := HG2.out.res.frozen 2; have z3 := HG2.out.res.frozen 3; simp only [List.getElem?_toArray, List.getElem?_cons_zero, List.getElem?_cons_succ] at c0 c1 c2 c3 r0 r1 r2 r3; clear hb))
          | (go_at_call 132; go_must ((with_reducible refine (HX0.out _ (HG2.out).sc).mono ?_); rintro e w3 ⟨rfl, hg⟩; have HGE := Lib.hid hg; clear hg)))
        exact ⟨rfl, rfl, gb_trans (HG2.out).gr HGE.out⟩
      | ok v0 k2 =>
        rw [Res.bind_ok]
        have HX0 := Lib.hid (fun W (h : Sc W p l k1) => show Calls Tryz.prog 132 #[.pointer (some ⟨p, 0, none⟩), .int .i64 64] W (Did encS64 p l W (.ok v0 k2)) from by have := hX0 W h; rw [hr0] at this; exact this)
        clear hX0 hr0
        obtain ⟨x, hx⟩ : ∃ x, x = v0 % 18446744073709551616 := ⟨_, rfl⟩
        rw [← hx]
        have hw : IntKind.u64.wrap v0 = x := by rw [hx]; simp [IntKind.wrap, IntKind.bits, IntKind.signed]
        clear hx
        go_enter Tryz.func110, Tryz.ntmps110
        go_wp2_with (first
          | (go_at_call 127; go_must ((with_reducible refine HOP.out.mono ?_); rintro e w1 ⟨rfl, hs, hg⟩; have HG1 := Lib.hid (HST.out w1 hs hg); have hh := HG1.out.h2; have n1 : ¬ w1.heap.size = w.heap.size := (by omega); have n2 : ¬ w.heap.size = w1.heap.size := (by omega); clear hs hg hh))
          | (go_at_call 128; go_must ((with_reducible refine (HI.out _ HG1.out.tb.tabs).mono ?_); rintro e w2 ⟨rfl, hb⟩; unfold infV; have HG2 := Lib.hid (HG1.out.below hb); have c0 := HG2.out.box.cell 0; have c1 := HG2.out.box.cell 1; have c2 := HG2.out.box.cell 2; have c3 := HG2.out.box.cell 3; have f1 := HG2.out.box.frozen 1; have f2 := HG2.out.box.frozen 2; have f3 := HG2.out.box.frozen 3; have r0 := HG2.out.res.cell 0; have r1 := HG2.out.res.cell 1; have r2 := HG2.out.res.cell 2; have r3 := HG2.out.res.cell 3; have z0 := HG2.out.res.frozen 0; have z1 := HG2.out.res.frozen 1; have z2 := HG2.out.res.frozen 2; have z3 := HG2.out.res.frozen 3; simp only [List.getElem?_toArray, List.getElem?_cons_zero, List.getElem?_cons_succ] at c0 c1 c2 c3 r0 r1 r2 r3; clear hb))
          | (go_at_call 132; go_must ((with_reducible refine (HX0.out _ (HG2.out).sc).mono ?_); rintro e w3 ⟨rfl, hs, hg⟩; clear c0 c1 c2 c3 f1 f2 f3 r0 r1 r2 r3 z0 z1 z2 z3; have HG3 := Lib.hid ((HG2.out).call hs hg); have c0 := HG3.out.box.cell 0; have c1 := HG3.out.box.cell 1; have c2 := HG3.out.box.cell 2; have c3 := HG3.out.box.cell 3; have f1 := HG3.out.box.frozen 1; have f2 := HG3.out.box.frozen 2; have f3 := HG3.out.box.frozen 3; have r0 := HG3.out.res.cell 0; have r1 := HG3.out.res.cell 1; have r2 := HG3.out.res.cell 2; have r3 := HG3.out.res.cell 3; have z0 := HG3.out.res.frozen 0; have z1 := HG3.out.res.frozen 1; have z2 := HG3.out.res.frozen 2; have z3 := HG3.out.res.frozen 3; simp only [List.getElem?_toArray, List.getElem?_cons_zero, List.getElem?_cons_succ] at c0 c1 c2 c3 r0 r1 r2 r3; clear hs hg)))
        obtain ⟨q, hf⟩ := GSt.fin ((HG3.out.put 1 (.int .u64 x) rfl)) (.int .u8 c.toNat) (.int .u64 x) (.int .u64 0) (.slice none 0 0) _ rfl
        have q0 := q.cell 0
        have q1 := q.cell 1
        have q2 := q.cell 2
        have q3 := q.cell 3
        simp only [List.getElem?_toArray, List.getElem?_cons_zero, List.getElem?_cons_succ] at q0 q1 q2 q3
        exact bodyPost_ret (v := insV (⟨c, x, 0, []⟩ : I) none 0) (by simp [results, Tryz.results110, go_sem, q0, q1, q2, q3]) rfl (gets_end (i := (⟨c, x, 0, []⟩ : I)) ((HG3.out.put 1 (.int .u64 x) rfl)) hf rfl rfl)
    have d11 : ((m : Int) == 11) = false := by simp; omega
    rw [show bodyR m c l k1 = (indexR l k1).bind fun a k1 => .ok ⟨c, a, 0, []⟩ k1 from by unfold bodyR; rw [if_neg m0, if_neg m1, if_neg m3, if_neg m5, if_neg m8, if_neg m9, if_neg m10, if_neg m11]]
    have hX0 := fun W (h : Sc W p l k1) => getNumber_any h
    cases hr0 : indexR l k1 with
    | err ec ea =>
      rw [Res.bind_err]
      show Calls _ _ _ _ (fun e w' => e = .panicked (stopP ec ea) ∧ w.grownBy w' (some p))
      have HX0 := Lib.hid (fun W (h : Sc W p l k1) => show Calls Tryz.prog 131 #[.pointer (some ⟨p, 0, none⟩)] W (Did enc64 p l W (.err ec ea)) from by have := hX0 W h; rw [hr0] at this; exact this)
      clear hX0 hr0
      go_enter Tryz.func110, Tryz.ntmps110
      go_wp2_with (first
        | (go_at_call 127; go_must ((with_reducible refine HOP.out.mono ?_); rintro e w1 ⟨rfl, hs, hg⟩; have HG1 := Lib.hid (HST.out w1 hs hg); have hh := HG1.out.h2; have n1 : ¬ w1.heap.size = w.heap.size := (by omega); have n2 : ¬ w.heap.size = w1.heap.size := (by omega); clear hs hg hh))
        | (go_at_call 128; go_must ((with_reducible refine (HI.out _ HG1.out.tb.tabs).mono ?_); rintro e w2 ⟨rfl, hb⟩; unfold infV; have HG2 := Lib.hid (HG1.out.below hb); have c0 := HG2.out.box.cell 0; have c1 := HG2.out.box.cell 1; have c2 := HG2.out.box.cell 2; have c3 := HG2.out.box.cell 3; have f1 := HG2.out.box.frozen 1; have f2 := HG2.out.box.frozen 2; have f3 := HG2.out.box.frozen 3; have r0 := HG2.out.res.cell 0; have r1 := HG2.out.res.cell 1; have r2 := HG2.out.res.cell 2; have r3 := HG2.out.res.cell 3; have z0 := HG2.out.res.frozen 0; have z1 := HG2.out.res.frozen 1; have z2 := HG2.out.res.frozen 2; have z3 := HG2.out.res.frozen 3; simp only [List.getElem?_toArray, List.getElem?_cons_zero, List.getElem?_cons_succ] at c0 c1 c2 c3 r0 r1 r2 r3; clear hb))
        | (go_at_call 131; go_must ((with_reducible refine (HX0.out _ (HG2.out).sc).mono ?_); rintro e w3 ⟨rfl, hg⟩; have HGE := Lib.hid hg; clear hg)))
      exact ⟨rfl, rfl, gb_trans (HG2.out).gr HGE.out⟩
    | ok v0 k2 =>
      rw [Res.bind_ok]
      have HX0 := Lib.hid (fun W (h : Sc W p l k1) => show Calls Tryz.prog 131 #[.pointer (some ⟨p, 0, none⟩)] W (Did enc64 p l W (.ok v0 k2)) from by have := hX0 W h; rw [hr0] at this; exact this)
      clear hX0 hr0
      go_enter Tryz.func110, Tryz.ntmps110
      go_wp2_with (first
        | (go_at_call 127; go_must ((with_reducible refine HOP.out.mono ?_); rintro e w1 ⟨rfl, hs, hg⟩; have HG1 := Lib.hid (HST.out w1 hs hg); have hh := HG1.out.h2; have n1 : ¬ w1.heap.size = w.heap.size := (by omega); have n2 : ¬ w.heap.size = w1.heap.size := (by omega); clear hs hg hh))
        | (go_at_call 128; go_must ((with_reducible refine (HI.out _ HG1.out.tb.tabs).mono ?_); rintro e w2 ⟨rfl, hb⟩; unfold infV; have HG2 := Lib.hid (HG1.out.below hb); have c0 := HG2.out.box.cell 0; have c1 := HG2.out.box.cell 1; have c2 := HG2.out.box.cell 2; have c3 := HG2.out.box.cell 3; have f1 := HG2.out.box.frozen 1; have f2 := HG2.out.box.frozen 2; have f3 := HG2.out.box.frozen 3; have r0 := HG2.out.res.cell 0; have r1 := HG2.out.res.cell 1; have r2 := HG2.out.res.cell 2; have r3 := HG2.out.res.cell 3; have z0 := HG2.out.res.frozen 0; have z1 := HG2.out.res.frozen 1; have z2 := HG2.out.res.frozen 2; have z3 := HG2.out.res.frozen 3; simp only [List.getElem?_toArray, List.getElem?_cons_zero, List.getElem?_cons_succ] at c0 c1 c2 c3 r0 r1 r2 r3; clear hb))
        | (go_at_call 131; go_must ((with_reducible refine (HX0.out _ (HG2.out).sc).mono ?_); rintro e w3 ⟨rfl, hs, hg⟩; clear c0 c1 c2 c3 f1 f2 f3 r0 r1 r2 r3 z0 z1 z2 z3; have HG3 := Lib.hid ((HG2.out).call hs hg); have c0 := HG3.out.box.cell 0; have c1 := HG3.out.box.cell 1; have c2 := HG3.out.box.cell 2; have c3 := HG3.out.box.cell 3; have f1 := HG3.out.box.frozen 1; have f2 := HG3.out.box.frozen 2; have f3 := HG3.out.box.frozen 3; have r0 := HG3.out.res.cell 0; have r1 := HG3.out.res.cell 1; have r2 := HG3.out.res.cell 2; have r3 := HG3.out.res.cell 3; have z0 := HG3.out.res.frozen 0; have z1 := HG3.out.res.frozen 1; have z2 := HG3.out.res.frozen 2; have z3 := HG3.out.res.frozen 3; simp only [List.getElem?_toArray, List.getElem?_cons_zero, List.getElem?_cons_succ] at c0 c1 c2 c3 r0 r1 r2 r3; clear hs hg)))
      obtain ⟨q, hf⟩ := GSt.fin ((HG3.out.put 1 (.int .u64 v0) rfl)) (.int .u8 c.toNat) (.int .u64 v0) (.int .u64 0) (.slice none 0 0) _ rfl
      have q0 := q.cell 0
      have q1 := q.cell 1
      have q2 := q.cell 2
      have q3 := q.cell 3
      simp only [List.getElem?_toArray, List.getElem?_cons_zero, List.getElem?_cons_succ] at q0 q1 q2 q3
      exact bodyPost_ret (v := insV (⟨c, v0, 0, []⟩ : I) none 0) (by simp [results, Tryz.results110, go_sem, q0, q1, q2, q3]) rfl (gets_end (i := (⟨c, v0, 0, []⟩ : I)) ((HG3.out.put 1 (.int .u64 v0) rfl)) hf rfl rfl)
end Go.Proofs.YtebgmfjgapmpfabGreatDoor
