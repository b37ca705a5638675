/- awake; the laws' closures; two lists side by side. -/
import Derived.Test.YticgmfeihdankaaDoorZg02
import Derived.Test.YticgmfeihdankaaDoorZg03
import Derived.Test.YticgmfeihdankaaDoorZm11
import Derived.Test.YticgmfeihdankaaDoorZm07
import Derived.Test.YticgmfeihdankaaDoorZm04
import Derived.Test.YticgmfeihdankaaDoorZg01
import Derived.Deep.CutBlock
import Derived.Deep.DeepCutAuto
import Derived.Test.YticgmfeihdankaaDoorZm05
import Derived.Test.YticgmfeihdankaaDoorTie
import Derived.Lib.LaidIn
import Derived.Lib.LaidU8
import Derived.LaidMore
import Derived.MakeChecks
import Derived.Stop.Joined
import Derived.OpenShut
namespace Go.Proofs.YticgmfeihdankaaDoor
open Go.RowKit
set_option linter.unusedVariables false
set_option maxRecDepth 100000

/-- The page's example: an i32 that may change, of 5. -/
def gEg : Gl := ⟨127, true, cEg⟩
theorem gEg_zero : rG gEg = 0 := by
  unfold rG
  rw [if_neg (by show ¬ valueZ 127 ≠ 0; decide +kernel)]
  exact cEg_zero
theorem gEg_put : gputL gEg = [127, 1, 65, 5, 11] := by
  unfold gputL cputL
  show encG 127 true ++ (putL cEg ++ [11]) = _
  rw [cEg_put]
  rfl
theorem gawake_any (w : World) (hT : Tabs w) : Calls Tryd.prog 60 #[] w fun e w' => e = .returned (.bool true) ∧ Below w.heap.size w w' := by
  have hp := put_gl gEg none 0 w cEg_ok hT (by decide)
  obtain ⟨l, hl⟩ : ∃ l : List UInt8, l = [127, 1, 65, 5, 11] := ⟨_, rfl⟩
  have HP := Lib.hid (show Calls Tryd.prog 62 #[.agg #[.int .u8 127, .bool true, .int .u8 65, .int .u64 5, .int .u64 0, .slice none 0 0]] w fun e w' => ∃ v, e = .returned (.tuple #[v, .int .i64 0]) ∧ Row w' w.heap.size v l ∧ Below w.heap.size w w' from hp.mono fun e w' ⟨v, h1, h2, h3⟩ => ⟨v, by rw [gEg_zero] at h1; exact h1, by rw [if_pos gEg_zero, gEg_put] at h2; rw [hl]; exact h2, h3⟩)
  have hcmp : ((S l).toList == [127, 1, 65, 5, 11]) = true := by rw [S_toList, hl]; rfl
  clear hl
  clear hp hT
  go_enter Tryd.func60, Tryd.ntmps60
  go_wp2_with (go_at_call 62; go_must ((with_reducible refine HP.out.mono ?_); intro e w1 h; obtain ⟨v, rfl, hr, hb⟩ := h; obtain ⟨A, c, rfl, hcv⟩ := hr.str; have hcv2 := hcv 9 Tryd.underlying9; have HB := Lib.hid hb; clear hb hr hcv))
  go_ret
  exact ⟨rfl, HB.out⟩

theorem cfG1 (cap : Array Value) (w : World) : (callFunc 65 cap).run Tryd.prog w = .ok (.enter 65 cap) w := by kernel_rfl
set_option maxHeartbeats 4000000 in
theorem closG1 {w : World} {p b : Nat} {l : List UInt8} {k : Nat} {x : Gl} (hb : Whole w b 35 #[.pointer (some ⟨p, 0, none⟩)])
    (hG : ∀ W, Below w.heap.size w W → Calls Tryd.prog 66 #[.pointer (some ⟨p, 0, none⟩)] W (fun e w' => ∃ A2 c2, e = .returned (glV x A2 c2) ∧ Sc w' p l k ∧ W.grownBy w' (some p))) (hp : p < w.heap.size) :
    Calls Tryd.prog 65 #[.pointer (some ⟨b, 0, none⟩)] w (fun e w' => ∃ A2 c2, e = .returned (glV x A2 c2) ∧ Sc w' p l k ∧ w.grownBy w' (some p)) := by
  have HGt := Lib.hid (hG _ (below_box w (.cells glZ 103)))
  have HWM := Lib.hid (Whole.made w 103 glZ)
  have c0' : ∀ o, (w.alloc o).cell? ⟨b, 0, none⟩ = some (.pointer (some ⟨p, 0, none⟩)) := fun o => (hb.alloc o).cell 0
  clear hb hG
  go_enter Tryd.func65, Tryd.ntmps65
  go_wp2_with (go_at_call 66; go_must ((with_reducible refine HGt.out.mono ?_); rintro e w1 ⟨A2, c2, rfl, hs, hg⟩; have HS := Lib.hid hs; have HG := Lib.hid hg; have HW1 := Lib.hid (HWM.out.grown hg (by simp only [ne_eq, Option.some.injEq]; omega)); have z0 := HW1.out.cell 0; have z1 := HW1.out.cell 1; have z2 := HW1.out.cell 2; have z3 := HW1.out.cell 3; have z4 := HW1.out.cell 4; have z5 := HW1.out.cell 5; simp only [List.getElem?_toArray, List.getElem?_cons_zero, List.getElem?_cons_succ] at z0 z1 z2 z3 z4 z5; have f0 := HW1.out.frozen 0; have f1 := HW1.out.frozen 1; have f2 := HW1.out.frozen 2; have f3 := HW1.out.frozen 3; have f4 := HW1.out.frozen 4; have f5 := HW1.out.frozen 5; clear hs hg))
  obtain ⟨h1, h2⟩ := put6 (u0 := .int .u8 x.t.toNat) (u1 := .bool x.m) (u2 := .int .u8 x.i.op.toNat) (u3 := .int .u64 x.i.a) (u4 := .int .u64 x.i.b) (u5 := .slice A2 x.i.l.length c2) HW1.out
  obtain ⟨q0, q1, q2, q3, q4, q5⟩ := Whole.gl (x := x) h1
  exact bodyPost_ret (v := glV x A2 c2) (by simp [results, Tryd.results65, go_sem, q0, q1, q2, q3, q4, q5]) rfl ⟨A2, c2, rfl, HS.out.grown h2 (by simp only [ne_eq, Option.some.injEq]; omega) (fun g e => by injection e with e; omega), gb_before (gb_trans (gb_alloc (gb_refl _ _) _) HG.out) h2 (fun g e => .inr (by injection e with e; omega))⟩

/-- The six cells of a global, by its parts. -/
abbrev SixL (w : World) (b o : Nat) (g : Gl) (a : Option Addr) (c : Nat) : Prop := w.cell? ⟨b, o, none⟩ = some (.int .u8 g.t.toNat) ∧ w.cell? ⟨b, o + 1, none⟩ = some (.bool g.m) ∧ w.cell? ⟨b, o + 2, none⟩ = some (.int .u8 g.i.op.toNat) ∧ w.cell? ⟨b, o + 3, none⟩ = some (.int .u64 g.i.a) ∧ w.cell? ⟨b, o + 4, none⟩ = some (.int .u64 g.i.b) ∧ w.cell? ⟨b, o + 5, none⟩ = some (.slice a g.i.l.length c)
/-- One of each of two lists, as a walk reads them; both lists. -/
abbrev TwoG (w : World) (A A2 : Option Addr) (l l2 : List SlotG) (b off b2 off2 k : Nat) (g : Gl) (a1 a2 : Option Addr) (c1 c2 : Nat) (W : World) : Prop :=
  (Below w.heap.size w W ∧ Gs W A l ∧ Gs W A2 l2) ∧ SixL W b (off + k * 6) g a1 c1 ∧ SixL W b2 (off2 + k * 6) g a2 c2
section
variable {w W W' : World} {A A2 : Option Addr} {l l2 : List SlotG} {b off b2 off2 k : Nat} {g : Gl} {a1 a2 : Option Addr} {c1 c2 : Nat}
theorem twoG_of (h1 : Below w.heap.size w W) (h2 : Gs W A l) (h3 : Gs W A2 l2) (hA : A = some ⟨b, off, none⟩) (hA2 : A2 = some ⟨b2, off2, none⟩) (hx : l[k]? = some (g, a1, c1)) (hy : l2[k]? = some (g, a2, c2)) : TwoG w A A2 l l2 b off b2 off2 k g a1 a2 c1 c2 W := by
  obtain ⟨d1, o1, e1, _, p⟩ := h2.six hx
  obtain ⟨d2, o2, e2, _, q⟩ := h3.six hy
  rw [hA] at e1
  rw [hA2] at e2
  injection e1 with e1
  injection e2 with e2
  injection e1 with a1 a2
  injection e2 with a3 a4
  subst a1; subst a2; subst a3; subst a4
  exact ⟨⟨h1, h2, h3⟩, p, q⟩
theorem twoG_on (h : TwoG w A A2 l l2 b off b2 off2 k g a1 a2 c1 c2 W) (hA : A = some ⟨b, off, none⟩) (hA2 : A2 = some ⟨b2, off2, none⟩) (hx : l[k]? = some (g, a1, c1)) (hy : l2[k]? = some (g, a2, c2)) (hb : Below W.heap.size W W') : TwoG w A A2 l l2 b off b2 off2 k g a1 a2 c1 c2 W' :=
  twoG_of (h.1.1.trans (hb.mono h.1.1.size)) (h.1.2.1.below hb) (h.1.2.2.below hb) hA hA2 hx hy
/-- Both have one there, and these are alike. -/
theorem both_at (hm : l.map (·.1) = l2.map (·.1)) (hk : k < l.length) : ∃ g a1 a2 c1 c2, l[k]? = some (g, a1, c1) ∧ l2[k]? = some (g, a2, c2) := by
  obtain ⟨⟨g, a1, c1⟩, hx⟩ : ∃ x, l[k]? = some x := ⟨_, List.getElem?_eq_getElem hk⟩
  have hk2 : k < l2.length := by have := congrArg List.length hm; rw [List.length_map, List.length_map] at this; omega
  obtain ⟨⟨g2, a2, c2⟩, hy⟩ : ∃ y, l2[k]? = some y := ⟨_, List.getElem?_eq_getElem hk2⟩
  have e := congrArg (fun l => l[k]?) hm
  simp only [List.getElem?_map, hx, hy, Option.map_some, Option.some.injEq] at e
  subst e
  exact ⟨g, a1, a2, c1, c2, hx, hy⟩
end
end Go.Proofs.YticgmfeihdankaaDoor

/- A constant expression that was written is read: as plain functions. -/
namespace Go.Proofs.YticgmfeihdankaaDoor
open Go.RowKit
set_option linter.unusedVariables false
set_option maxRecDepth 100000

theorem intR_at {l r : List UInt8} {k n : Nat} {x : Int} (h : l.drop k = sebL x ++ r) (h0 : -2 ^ (n - 1) ≤ x) (h1 : x < 2 ^ (n - 1)) (n1 : 1 ≤ n) (n2 : n ≤ 64) : intR l k n = .ok x (k + (sebL x).length) := by
  have m63 : (2 : Int) ^ (n - 1) ≤ 2 ^ 63 := mono2 (by omega)
  have e63 : (2 : Int) ^ 63 = 9223372036854775808 := rfl
  have hna := sebN_least x (by omega) (by omega)
  have hlen := sebL_length x
  have hnl := nums_sebL x
  obtain ⟨p, c, he, hg, hx, c0, c1, hf, hp⟩ := least_s h0 h1 n1 n2 hna
  rw [he] at hlen hnl
  have hd : (nums l).drop k = grps x p ++ c :: nums r := by
    have : (nums l).drop k = nums (l.drop k) := by unfold nums; rw [List.map_drop]
    rw [this, h, nums_append, hnl, ← he, hg]
    simp
  have hq : onN l k n = p := by
    have := onN_stop l k n
    rw [hd] at this
    exact this.unique (grps_stop x p _ c _ c1 (by omega))
  unfold intR
  rw [if_pos ⟨n1, n2⟩, hq, if_neg (by omega), hd, grps_at]
  simp only
  rw [if_pos hf, grps_take, hlen]
  have e : numS (grps x p) c = x := by unfold numS; rw [low_grps, grps_length]; exact hx
  rw [e]
theorem getR_c {l r : List UInt8} {k : Nat} {i : I} (oi : i.Ok) (h0 : crightZ i = 0) (h : l.drop k = putL i ++ r) : getR l k = .ok i (k + (putL i).length) := by
  obtain ⟨hr, hc⟩ := cr_zero h0
  have hl := cz_nil h0
  obtain ⟨hc0, _, _, hb8, hz0⟩ := right_zero hr
  obtain ⟨a0, a1, b0, b1, _⟩ := oi
  obtain ⟨_, _, hz3⟩ := nums_zero hz0 a0
  obtain ⟨m, hm⟩ : ∃ m, m = immR i.n := ⟨_, rfl⟩
  have hm3 : m = 7 ∨ m = 10 ∨ m = 11 := by
    rw [hm]
    rcases hc with e | e | e
    all_goals rw [show i.n = _ from e]; decide +kernel
  rw [← hm] at hb8 hz3
  have hb : i.b = 0 := by omega
  have hp1 : putL i = i.op :: immB m i := by unfold putL immL; rw [hm]
  rw [hp1, List.cons_append] at h
  have hd1 : l.drop (k + 1) = immB m i ++ r := drop_past (a := [i.op]) h
  have hop : opR l k = .ok i.op (k + 1) := by unfold opR; rw [byteR_at h, Res.bind_ok, if_pos hc0]
  unfold getR
  rw [hop, Res.bind_ok]
  rw [show immR i.op.toNat = m from hm.symm, hp1, show k + (i.op :: immB m i).length = k + 1 + (immB m i).length by rw [List.length_cons]; omega]
  clear hm hop hp1 h hr hc hc0 hz0 h0
  obtain ⟨o, a, b, ls⟩ := i
  simp only at hl hb a0 a1 hz3 hd1 ⊢
  subst hl
  subst hb
  rcases hm3 with rfl | rfl | rfl
  · have himm : immB 7 ⟨o, a, 0, []⟩ = lebL a := by simp [immB]
    rw [himm] at hd1 ⊢
    have hbd : bodyR 7 o l (k + 1) = (indexR l (k + 1)).bind fun a k1 => .ok ⟨o, a, 0, []⟩ k1 := by simp [bodyR]
    rw [hbd, indexR_at hd1 a0 (by have := (hz3 (by omega)).1; omega), Res.bind_ok]
  · have himm : immB 10 ⟨o, a, 0, []⟩ = sebL (s32 a) := by simp [immB]
    rw [himm] at hd1 ⊢
    have ha := (hz3 (by omega)).1
    have hbd : bodyR 10 o l (k + 1) = (intR l (k + 1) 32).bind fun v k1 => .ok ⟨o, v % 4294967296, 0, []⟩ k1 := by simp [bodyR]
    rw [hbd, intR_at hd1 (show -2147483648 ≤ s32 a by unfold s32; omega) (show s32 a < 2147483648 by unfold s32; omega) (by omega) (by omega), Res.bind_ok, show s32 a % 4294967296 = a by unfold s32; omega]
  · have himm : immB 11 ⟨o, a, 0, []⟩ = sebL (s64 a) := by simp [immB]
    rw [himm] at hd1 ⊢
    have hbd : bodyR 11 o l (k + 1) = (intR l (k + 1) 64).bind fun v k1 => .ok ⟨o, v % 18446744073709551616, 0, []⟩ k1 := by simp [bodyR]
    rw [hbd, intR_at hd1 (show -9223372036854775808 ≤ s64 a by unfold s64; omega) (show s64 a < 9223372036854775808 by unfold s64; omega) (by omega) (by omega), Res.bind_ok, show s64 a % 18446744073709551616 = a by unfold s64; omega]
theorem readR_at {l r : List UInt8} {k : Nat} {i : I} (oi : i.Ok) (h0 : crightZ i = 0) (h : l.drop k = cputL i ++ r) : readR l k = .ok i (k + (cputL i).length) := by
  have hd : l.drop k = putL i ++ (11 :: r) := by rw [h]; unfold cputL; simp
  have hg := getR_c oi h0 hd
  have hd2 := drop_past hd
  unfold readR
  rw [hg, Res.bind_ok, if_pos h0, byteR_at hd2, Res.bind_ok, if_pos rfl]
  unfold cputL
  rw [List.length_append, List.length_singleton, Nat.add_assoc]
end Go.Proofs.YticgmfeihdankaaDoor

/- A global that was written is read. -/
namespace Go.Proofs.YticgmfeihdankaaDoor
open Go.RowKit
set_option linter.unusedVariables false
set_option maxRecDepth 100000

theorem gR_at {l r : List UInt8} {k : Nat} {x : Gl} (oi : x.i.Ok) (h0 : rG x = 0) (h : l.drop k = gputL x ++ r) : gR l k = .ok x (k + (gputL x).length) := by
  obtain ⟨h1, h2⟩ := rG_zero h0
  have he : (encG (x.t.toNat : Int) x.m).length = 2 := rfl
  have hd : l.drop k = encG x.t.toNat x.m ++ (cputL x.i ++ r) := by rw [h]; unfold gputL; rw [List.append_assoc]
  have hd2 := drop_past hd
  rw [he] at hd2
  unfold gR
  rw [globR_at hd h1, Res.bind_ok, readR_at oi h2 hd2, Res.bind_ok]
  unfold gputL
  rw [List.length_append, he, Nat.add_assoc]
end Go.Proofs.YticgmfeihdankaaDoor

/- The walk of GlobalsPuts. -/
namespace Go.Proofs.YticgmfeihdankaaDoor
open Go.RowKit
set_option linter.unusedVariables false
set_option maxRecDepth 100000

/-- What the law keeps: the box of its input, the bytes, the scanner's cell. -/
structure PKG (w : World) (x : Gl) (A : Option Addr) (c : Nat) (p : Nat) (B : Nat) (Ab : Option Addr) (y : List UInt8) (b6 : Nat) (W : World) : Prop where
  bx : Whole W w.heap.size 103 (glC x A c)
  ly : Lies W B Ab (cells (nums y))
  pt : Whole W b6 35 #[.pointer (some ⟨p, 0, none⟩)]
  bel : Below w.heap.size w W
  o1 : w.heap.size < p
  o2 : B ≤ p
  o3 : p < b6
  o4 : B ≤ W.heap.size
section
variable {w W W' : World} {x : Gl} {A : Option Addr} {c : Nat} {p B b6 k k' q : Nat} {l : List UInt8} {Ab : Option Addr} {y : List UInt8}
theorem PKG.grown (h : PKG w x A c p B Ab y b6 W) (hg : W.grownBy W' (some q)) (h1 : p ≤ q) (h2 : b6 ≠ q) : PKG w x A c p B Ab y b6 W' := by
  obtain ⟨a1, a2, a3, a4, a5, a6, a7, a8⟩ := h
  exact ⟨a1.grown hg (by simp only [ne_eq, Option.some.injEq]; omega), a2.grown hg a8 (fun g e => by injection e with e; omega), a3.grown hg (by simp only [ne_eq, Option.some.injEq]; omega), below_new a4 hg (by omega), a5, a6, a7, Nat.le_trans a8 hg.size⟩
theorem PKG.below (h : PKG w x A c p B Ab y b6 W) (hb : Below W.heap.size W W') : PKG w x A c p B Ab y b6 W' := by
  obtain ⟨a1, a2, a3, a4, a5, a6, a7, a8⟩ := h
  exact ⟨a1.below hb, a2.below hb a8, a3.below hb, a4.trans (hb.mono a4.size), a5, a6, a7, Nat.le_trans a8 hb.size⟩
/-- At the law's end. -/
structure PEG (w : World) (x : Gl) (A : Option Addr) (c : Nat) (A2 : Option Addr) (c2 : Nat) (p : Nat) (B : Nat) (Ab : Option Addr) (y : List UInt8) (b6 g : Nat) (l : List UInt8) (k : Nat) (W : World) : Prop where
  a : PKG w x A c p B Ab y b6 W
  sc : Sc W p l k
  yb : Whole W g 103 (glC x A2 c2)
  st : Whole W (g + 1) 38 #[.int .i64 0, .int .i64 0]
theorem PEG.below {g c2 : Nat} {A2 : Option Addr} (h : PEG w x A c A2 c2 p B Ab y b6 g l k W) (hb : Below W.heap.size W W') : PEG w x A c A2 c2 p B Ab y b6 g l k W' := ⟨h.a.below hb, h.sc.below hb, h.yb.below hb, h.st.below hb⟩
/-- .. and what it reads as. -/
abbrev PEGc (w : World) (x : Gl) (A : Option Addr) (c : Nat) (A2 : Option Addr) (c2 : Nat) (p : Nat) (B : Nat) (Ab : Option Addr) (cb : Nat) (y : List UInt8) (b6 g : Nat) (l : List UInt8) (k : Nat) (W : World) : Prop := PEG w x A c A2 c2 p B Ab y b6 g l k W ∧
  SixG W w.heap.size x A c ∧ SixG W g x A2 c2 ∧
  W.cell? ⟨g + 1, 0, none⟩ = some (.int .i64 0) ∧ W.cell? ⟨b6, 0, none⟩ = some (.pointer (some ⟨p, 0, none⟩)) ∧ (convert 30 9 (.slice Ab y.length cb)).run Tryd.prog W = .ok (.string (S y)) W
theorem PEG.all {g c2 : Nat} {A2 : Option Addr} (h : PEG w x A c A2 c2 p B Ab y b6 g l k W) (cb : Nat) : PEGc w x A c A2 c2 p B Ab cb y b6 g l k W :=
  ⟨h, h.a.bx.gl, h.yb.gl, h.st.cell 0, h.a.pt.cell 0, str_any h.a.ly cb 9 Tryd.underlying9⟩
end
/-- The boxed input and the tables. -/
structure PStG (w : World) (x : Gl) (A : Option Addr) (c : Nat) (W : World) : Prop where
  tb : Tabs W
  bx : BxG w w.heap.size x A c W
theorem PStG.on {w W W' : World} {x : Gl} {A : Option Addr} {c : Nat} (h : PStG w x A c W) (hb : Below W.heap.size W W') : PStG w x A c W' := ⟨h.tb.below hb, bxG_on h.bx hb⟩
set_option maxHeartbeats 8000000 in
theorem lawGP {w : World} {x : Gl} {A : Option Addr} {c : Nat} (hT : Tabs w) (oi : x.i.Ok) (ni : (x.i.l.length : Int) ≤ 9223372036854775807) :
    Calls Tryd.prog 11 #[glV x A c] w fun e w' => e = .returned (.bool true) ∧ Below w.heap.size w w' := by
  have HTw := Lib.hid hT
  have h0 : PStG w x A c (w.alloc (.cells (glC x A c) 103)) := ⟨hT.below (below_box _ _), bxG_start w x A c⟩
  have HAW := Lib.hid (gawake_any _ h0.tb)
  have H0 := Lib.hid h0
  clear h0 hT
  by_cases g2 : 100 < x.i.l.length
  · have t2 : decide ((100 : Int) < (x.i.l.length : Int)) = true := decide_eq_true (by omega)
    clear g2
    go_enter Tryd.func11, Tryd.ntmps11
    go_wp2_with (go_at_call 60; go_must ((with_reducible refine HAW.out.mono ?_); rintro e w1 ⟨rfl, hb⟩; have H1 := Lib.hid (H0.out.on hb); obtain ⟨c0, c1, c2, c3, c4, c5⟩ := H1.out.bx.1.1.gl; clear hb))
    go_ret
    exact ⟨rfl, bxG_bel H1.out.bx⟩
  have t2 : decide ((100 : Int) < (x.i.l.length : Int)) = false := decide_eq_false (by omega)
  have HRR := Lib.hid (fun W => rgright_any x A c W oi ni)
  have HIR := Lib.hid (fun W (h : Tabs W) => gright_any x A c W oi h ni)
  have HPU := Lib.hid (fun W (h : Tabs W) => put_gl x A c W oi h ni)
  unfold PuttedG at HPU
  by_cases hz : rG x = 0
  · rw [if_pos hz] at HPU
    have HRP := Lib.hid (fun W => rput_gl x A c W oi hz)
    have hlen := gputL_len oi hz
    have HGT := Lib.hid (fun W p l r k (h : Sc W p l k) (hT : TbP p W) (hd : l.drop k = gputL x ++ r) => show Calls Tryd.prog 66 #[.pointer (some ⟨p, 0, none⟩)] W (fun e w' => ∃ A2 c2, e = .returned (glV x A2 c2) ∧ Sc w' p l (k + (gputL x).length) ∧ W.grownBy w' (some p)) from by have := get_gl h hT; rw [gR_at oi hz hd] at this; exact this)
    have hnil := cz_nil (rG_zero hz).2
    rw [hz] at HRR HIR HPU
    obtain ⟨y, hy⟩ : ∃ y, y = gputL x := ⟨_, rfl⟩
    rw [← hy] at HPU HRP hlen HGT
    have hl7 : (([] ++ y) ++ [7]).length ≤ 1000000 := by simp only [List.length_append, List.length_singleton, List.length_nil]; omega
    have hl7' : ([] ++ y : List UInt8).length + ([7] : List UInt8).length ≤ 1000000 := by simp only [List.length_append, List.length_singleton, List.length_nil]; omega
    have hl0 : ([] : List UInt8).length + y.length ≤ 1000000 := by simp only [List.length_nil]; omega
    have HD := Lib.hid (show (([] ++ y) ++ [7] : List UInt8).drop 0 = y ++ [7] from by simp)
    have HLf := Lib.hid (fun W p (h : Sc W p (([] ++ y) ++ [7]) y.length) => by
      have h2 := left_any h
      have e : (((([] ++ y) ++ [7] : List UInt8).length : Int) - (y.length : Int)) = 1 := by simp only [List.length_append, List.length_singleton, List.length_nil]; omega
      rw [e] at h2
      exact h2)
    have HSm := Lib.hid (fun W (A2 : Option Addr) (c2 : Nat) => rsame_gl (w := W) (x := x) (A := A2) (B := A) (c := c2) (d := c) hnil)
    obtain ⟨L, hL⟩ : ∃ L, L = (([] ++ y) ++ [7] : List UInt8) := ⟨_, rfl⟩
    rw [← hL] at hl7 HD HLf
    have HLd := Lib.hid hL
    clear hL
    clear hz hy g2 hnil oi ni
    go_enter Tryd.func11, Tryd.ntmps11
    go_upto_region 11 with (first
      | (go_at_call 60; go_must ((with_reducible refine HAW.out.mono ?_); rintro e w1 ⟨rfl, hb⟩; have H1 := Lib.hid (H0.out.on hb); obtain ⟨c0, c1, c2, c3, c4, c5⟩ := H1.out.bx.1.1.gl; clear hb))
      | (go_at_call 61; go_must ((with_reducible refine (HRR.out _).mono ?_); rintro e w2 ⟨rfl, hb⟩; clear c0 c1 c2 c3 c4 c5; have H2 := Lib.hid (H1.out.on hb); obtain ⟨c0, c1, c2, c3, c4, c5⟩ := H2.out.bx.1.1.gl; clear hb))
      | (go_at_call 62; go_must ((with_reducible refine (HPU.out _ H2.out.tb).mono ?_); intro e w3 hq; obtain ⟨v, rfl, hr, hb⟩ := hq; obtain ⟨Ab, cb, rfl, hpc⟩ := hr.pc; clear c0 c1 c2 c3 c4 c5; have H3 := Lib.hid (H2.out.on hb); have HP3 := Lib.hid hpc; obtain ⟨c0, c1, c2, c3, c4, c5⟩ := H3.out.bx.1.1.gl; clear hb hr hpc))
      | (go_at_call 63; go_must ((with_reducible refine (HIR.out _ H3.out.tb).mono ?_); rintro e w4 ⟨rfl, hb⟩; clear c0 c1 c2 c3 c4 c5; have H4 := Lib.hid (H3.out.on hb); have HP4 := Lib.hid (HP3.out.below hb); clear hb)))
    have R0 := Lib.hid (Row.made w4 [] w4.heap.size w4.heap.size rfl (Nat.le_refl _) (by simp))
    have HP4' := Lib.hid (HP4.out.below (below_box w4 (.cells #[] 5)))
    have hB4 : w4.heap.size ≤ (w4.alloc (.cells #[] 5)).heap.size := (below_box w4 _).size
    go_upto_region 12 with (first
      | (go_at_call 16; go_must ((with_reducible refine (over_any HP6.out.lies HP6.out.nil hl7).mono ?_); intro e w7 hq; obtain ⟨p, rfl, hpp, hs, hb⟩ := hq; have HS7 := Lib.hid hs; have HB7 := Lib.hid (HB6.out.trans (hb.mono HB6.out.size)); have HB67 := Lib.hid hb; clear hs hb))
      | (have tok := HR5; at_builtin; go_must (refine row_any rfl _ _ rfl w4.heap.size _ ([] ++ y) rfl (HR5.out.later (below_box w5 (.cells #[.int .u8 7] 5))) (some ⟨w5.heap.size, 0, none⟩) 1 1 _ [7] rfl rfl (lies_made w5 [7] (0, 0)) (fun e => by cases e) hl7' (Nat.le_trans HB5.out.size (below_box w5 _).size) ?_; intro v6 w6 hr6 hb6; rw [← HLd.out] at hr6; obtain ⟨A6, c6', rfl, hpc6⟩ := hr6.pc; have HB6 := Lib.hid ((HB5.out.trans ((below_box w5 (.cells #[.int .u8 7] 5)).mono HB5.out.size)).trans hb6); have HP6 := Lib.hid hpc6; clear hr6 hb6 hpc6))
      | (at_builtin; go_must (refine row_any rfl _ _ rfl w4.heap.size _ [] rfl R0.out Ab y.length cb _ y rfl rfl HP4'.out.lies HP4'.out.nil hl0 hB4 ?_; intro v5 w5 hr5 hb5; have HR5 := Lib.hid hr5; have HB5 := Lib.hid ((below_box w4 (.cells #[] 5)).trans hb5); clear hr5 hb5)))
    have hx4 := H4.out.bx.1.1.lt
    have h46 := HB6.out.size
    have h7p := HS7.out.lt
    have hpk : PKG w x A c p w6.heap.size Ab y w7.heap.size (w7.alloc (.cells #[.pointer (some ⟨p, 0, none⟩)] 35)) :=
      ⟨((H4.out.bx.1.1.below HB7.out).alloc _), ((HP4.out.below HB6.out).lies.below (HB67.out.trans ((below_box w7 _).mono HB67.out.size)) (Nat.le_refl _)), Whole.made _ _ _,
        (bxG_bel H4.out.bx).trans ((HB7.out.trans ((below_box w7 _).mono HB7.out.size)).mono (bxG_bel H4.out.bx).size), by omega, hpp, h7p, Nat.le_trans HB67.out.size (below_box w7 _).size⟩
    have HPK := Lib.hid hpk
    have HS8 := Lib.hid (HS7.out.alloc (.cells #[.pointer (some ⟨p, 0, none⟩)] 35))
    have hb6 : w7.heap.size < (w7.alloc (.cells #[.pointer (some ⟨p, 0, none⟩)] 35)).heap.size := hpk.pt.lt
    clear R0 HP4' HR5 H1 H2 H3 HP3 HB5 HB6 HP6 HAW H0 HRR HIR HPU HP4 H4 HB7 HB67 HS7 hpk hl7 hl7' hl0 hB4
    generalize w7.alloc (.cells #[.pointer (some ⟨p, 0, none⟩)] 35) = W8 at *
    generalize w7.heap.size = b6 at *
    have HV := Lib.hid (valueG_ok (T := fun q W => q.1 = x ∧ PKG w x A c p w6.heap.size Ab y b6 W ∧ Sc W p L y.length) (cfG1 #[.pointer (some ⟨b6, 0, none⟩)]) (q := p) (w := W8) (by omega)
      (fun q W W' b h1 h2 h3 hg => ⟨h3.1, h3.2.1.grown hg (by omega) (by omega), h3.2.2.grown hg (by simp only [ne_eq, Option.some.injEq]; omega) (fun g e => by injection e with e; omega)⟩)
      (fun W hb hsz => by
        have hW := HPK.out.below hb
        have hS := HS8.out.below hb
        refine (closG1 (x := x) (l := L) (k := y.length) hW.pt (fun W2 hb2 => ?_) hS.lt).mono ?_
        · have h2 := HGT.out W2 p L [7] 0 (hS.below hb2) (show TbP p W2 from ⟨w, HTw.out, Nat.le_of_lt hW.o1, (hW.below hb2).bel⟩) HD.out
          rw [Nat.zero_add] at h2
          exact h2
        · rintro e w' ⟨A2, c2, rfl, hs, hg⟩
          exact ⟨(x, A2, c2), rfl, ⟨rfl, hW.grown hg (Nat.le_refl _) (by omega), hs⟩, hg⟩))
    clear HGT HTw
    go_upto_region 13 with (go_at_call 64; go_must ((with_reducible refine HV.out.mono ?_); rintro e w9 ⟨⟨q, A2, c2⟩, rfl, ⟨hqx, hpk, hs⟩, hg⟩; obtain rfl : q = x := hqx; have HPE := Lib.hid (show PEG w q A c A2 c2 p w6.heap.size Ab y b6 w9.heap.size L y.length ((w9.alloc (.cells (glC q A2 c2) 103)).alloc (.cells #[.int .i64 0, .int .i64 0] 38)) from ⟨(hpk.below (below_box _ _)).below (below_box _ _), (hs.alloc _).alloc _, (Whole.made _ _ _).alloc _, (made_2 w9 _ _ _)⟩); clear hpk hs hg))
    generalize (w9.alloc (.cells (glC q A2 c2) 103)).alloc (.cells #[.int .i64 0, .int .i64 0] 38) = W9 at *
    refine wp_region_noPanic ?_
    refine wp_region_held_drew (S := fun W => PEGc w q A c A2 c2 p w6.heap.size Ab cb y b6 w9.heap.size L y.length W) (by kernel_rfl) ((HPE.out.below (Below.refl _ _).drew).all cb) (fun hHeld => ?_)
    (refine heldTake (i := 0) (oi := { dst := some 48, op := Op.move (Operand.tmp 4), type := 30, pos := "law.go:38", after := #[], guard := none }) (v := ?_) rfl (by kernel_rfl) (by kernel_rfl) (by kernel_rfl) (by assumption) ?_ ?_; rotate_left; focus (refine .inl ⟨by kernel_rfl, ?_⟩; intro w hSw; (try dsimp only at hSw); go_simp; (try with_reducible rfl)); (try simp only [Act.put, List.setIfInBounds_toArray, List.set_cons_zero, List.set_cons_succ]))
    (refine heldTake (i := 1) (oi := { dst := some 49, op := Op.convert 30 9 (Operand.tmp 48), type := 9, pos := "law.go:38", after := #[{ on := 0, ground := Ground.data }], guard := none }) (v := ?_) rfl (by kernel_rfl) (by kernel_rfl) (by kernel_rfl) (by assumption) ?_ ?_; rotate_left; focus (refine .inl ⟨by kernel_rfl, ?_⟩; intro w hSw; (try dsimp only at hSw); go_simp; (try with_reducible rfl)); (try simp only [Act.put, List.setIfInBounds_toArray, List.set_cons_zero, List.set_cons_succ]))
    (refine heldTake (i := 2) (oi := { dst := some 50, op := Op.load 103 (Operand.tmp 1), type := 103, pos := "law.go:38", after := #[], guard := none }) (v := ?_) rfl (by kernel_rfl) (by kernel_rfl) (by kernel_rfl) (by assumption) ?_ ?_; rotate_left; focus (refine .inl ⟨by kernel_rfl, ?_⟩; intro w hSw; (try dsimp only at hSw); go_simp; (try with_reducible rfl)); (try simp only [Act.put, List.setIfInBounds_toArray, List.set_cons_zero, List.set_cons_succ]))
    refine wpAnyH_ready (rs := [3]) (by kernel_rfl) (by simp) ?_
    refine AllReadyH.cons (o := { dst := some 51, op := Op.call { callee := Callee.value (Operand.func 67), args := #[Operand.tmp 50], argTypes := #[103] }, type := 9, pos := "law.go:38", after := #[{ on := 2, ground := Ground.data }], guard := none }) rfl (fun K hK => ?_) AllReadyH.nil
    go_simp
    (go_at_call 67; (with_reducible refine (HRP.out _).mono ?_); rintro e w10 ⟨rfl, hb⟩; have hk10 := (PEG.below (And.left hHeld) hb).all cb; clear hb)
    refine hK.out _ _ hk10 (fun hHeld3 => ?_)
    clear hK K hHeld
    (try simp only [Act.put, List.setIfInBounds_toArray, List.set_cons_zero, List.set_cons_succ])
    (refine heldTake (i := 4) (oi := { dst := some 52, op := Op.binOp BinOp.eql 9 (Operand.tmp 49) (Operand.tmp 51) 9, type := 4, pos := "law.go:38", after := #[{ on := 1, ground := Ground.data }, { on := 3, ground := Ground.data }], guard := none }) (v := ?_) rfl (by kernel_rfl) (by kernel_rfl) (by kernel_rfl) (by assumption) ?_ ?_; rotate_left; focus (refine .inl ⟨by kernel_rfl, ?_⟩; intro w hSw; (try dsimp only at hSw); go_simp; (try with_reducible rfl)); (try simp only [Act.put, List.setIfInBounds_toArray, List.set_cons_zero, List.set_cons_succ]))
    (refine heldTake (i := 5) (oi := { dst := some 53, op := Op.move (Operand.tmp 52), type := 4, pos := "law.go:38", after := #[{ on := 4, ground := Ground.data }, { on := 3, ground := Ground.chain }], guard := none }) (v := ?_) rfl (by kernel_rfl) (by kernel_rfl) (by kernel_rfl) (by assumption) ?_ ?_; rotate_left; focus (refine .inl ⟨by kernel_rfl, ?_⟩; intro w hSw; (try dsimp only at hSw); go_simp; (try with_reducible rfl)); (try simp only [Act.put, List.setIfInBounds_toArray, List.set_cons_zero, List.set_cons_succ]))
    (refine heldTake (i := 6) (oi := { dst := some 54, op := Op.fieldAddr 38 (Operand.tmp 8) 0, type := 0, pos := "law.go:38", after := #[{ on := 5, ground := Ground.guard }], guard := some (5, true) }) (v := ?_) rfl (by kernel_rfl) (by kernel_rfl) (by kernel_rfl) (by assumption) ?_ ?_; rotate_left; focus (refine .inl ⟨by kernel_rfl, ?_⟩; intro w hSw; (try dsimp only at hSw); go_simp; (try with_reducible rfl)); (try simp only [Act.put, List.setIfInBounds_toArray, List.set_cons_zero, List.set_cons_succ]))
    (refine heldTake (i := 7) (oi := { dst := some 55, op := Op.load 31 (Operand.tmp 54), type := 31, pos := "law.go:38", after := #[{ on := 6, ground := Ground.data }, { on := 5, ground := Ground.guard }], guard := some (5, true) }) (v := ?_) rfl (by kernel_rfl) (by kernel_rfl) (by kernel_rfl) (by assumption) ?_ ?_; rotate_left; focus (refine .inl ⟨by kernel_rfl, ?_⟩; intro w hSw; (try dsimp only at hSw); go_simp; (try with_reducible rfl)); (try simp only [Act.put, List.setIfInBounds_toArray, List.set_cons_zero, List.set_cons_succ]))
    (refine heldTake (i := 8) (oi := { dst := some 56, op := Op.binOp BinOp.eql 31 (Operand.tmp 55) (Operand.const (Value.int IntKind.i64 0)) 31, type := 4, pos := "law.go:38", after := #[{ on := 7, ground := Ground.data }, { on := 5, ground := Ground.guard }], guard := some (5, true) }) (v := ?_) rfl (by kernel_rfl) (by kernel_rfl) (by kernel_rfl) (by assumption) ?_ ?_; rotate_left; focus (refine .inl ⟨by kernel_rfl, ?_⟩; intro w hSw; (try dsimp only at hSw); go_simp; (try with_reducible rfl)); (try simp only [Act.put, List.setIfInBounds_toArray, List.set_cons_zero, List.set_cons_succ]))
    (refine heldTake (i := 9) (oi := { dst := some 57, op := Op.pick (Operand.tmp 53) (Operand.tmp 56) (Operand.const (Value.bool false)), type := 4, pos := "law.go:38", after := #[{ on := 5, ground := Ground.data }, { on := 8, ground := Ground.data }], guard := none }) (v := ?_) rfl (by kernel_rfl) (by kernel_rfl) (by kernel_rfl) (by assumption) ?_ ?_; rotate_left; focus (refine .inl ⟨by kernel_rfl, ?_⟩; intro w hSw; (try dsimp only at hSw); go_simp; (try with_reducible rfl)); (try simp only [Act.put, List.setIfInBounds_toArray, List.set_cons_zero, List.set_cons_succ]))
    (refine heldTake (i := 10) (oi := { dst := some 58, op := Op.move (Operand.tmp 57), type := 4, pos := "law.go:38", after := #[{ on := 9, ground := Ground.data }, { on := 5, ground := Ground.chain }], guard := none }) (v := ?_) rfl (by kernel_rfl) (by kernel_rfl) (by kernel_rfl) (by assumption) ?_ ?_; rotate_left; focus (refine .inl ⟨by kernel_rfl, ?_⟩; intro w hSw; (try dsimp only at hSw); go_simp; (try with_reducible rfl)); (try simp only [Act.put, List.setIfInBounds_toArray, List.set_cons_zero, List.set_cons_succ]))
    (refine heldTake (i := 11) (oi := { dst := some 59, op := Op.load 103 (Operand.tmp 7), type := 103, pos := "law.go:38", after := #[{ on := 10, ground := Ground.guard }], guard := some (10, true) }) (v := ?_) rfl (by kernel_rfl) (by kernel_rfl) (by kernel_rfl) (by assumption) ?_ ?_; rotate_left; focus (refine .inl ⟨by kernel_rfl, ?_⟩; intro w hSw; (try dsimp only at hSw); go_simp; (try with_reducible rfl)); (try simp only [Act.put, List.setIfInBounds_toArray, List.set_cons_zero, List.set_cons_succ]))
    (refine heldTake (i := 12) (oi := { dst := some 60, op := Op.load 103 (Operand.tmp 1), type := 103, pos := "law.go:38", after := #[{ on := 10, ground := Ground.guard }], guard := some (10, true) }) (v := ?_) rfl (by kernel_rfl) (by kernel_rfl) (by kernel_rfl) (by assumption) ?_ ?_; rotate_left; focus (refine .inl ⟨by kernel_rfl, ?_⟩; intro w hSw; (try dsimp only at hSw); go_simp; (try with_reducible rfl)); (try simp only [Act.put, List.setIfInBounds_toArray, List.set_cons_zero, List.set_cons_succ]))
    refine wpAnyH_ready (rs := [13]) (by kernel_rfl) (by simp) ?_
    refine AllReadyH.cons (o := { dst := some 61, op := Op.call { callee := Callee.value (Operand.func 68), args := #[Operand.tmp 59, Operand.tmp 60], argTypes := #[103, 103] }, type := 4, pos := "law.go:38", after := #[{ on := 11, ground := Ground.data }, { on := 12, ground := Ground.data }, { on := 10, ground := Ground.chain }, { on := 10, ground := Ground.guard }], guard := some (10, true) }) rfl (fun K hK => ?_) AllReadyH.nil
    go_simp
    (go_at_call 68; (with_reducible refine (HSm.out _ _ _).mono ?_); rintro e w11 ⟨rfl, hb⟩; have hk11 := (PEG.below (And.left hHeld3) hb).all cb; clear hb)
    refine hK.out _ _ hk11 (fun hHeld13 => ?_)
    clear hK K hHeld3
    (try simp only [Act.put, List.setIfInBounds_toArray, List.set_cons_zero, List.set_cons_succ])
    (refine heldTake (i := 14) (oi := { dst := some 62, op := Op.pick (Operand.tmp 58) (Operand.tmp 61) (Operand.const (Value.bool false)), type := 4, pos := "law.go:38", after := #[{ on := 10, ground := Ground.data }, { on := 13, ground := Ground.data }], guard := none }) (v := ?_) rfl (by kernel_rfl) (by kernel_rfl) (by kernel_rfl) (by assumption) ?_ ?_; rotate_left; focus (refine .inl ⟨by kernel_rfl, ?_⟩; intro w hSw; (try dsimp only at hSw); go_simp; (try with_reducible rfl)); (try simp only [Act.put, List.setIfInBounds_toArray, List.set_cons_zero, List.set_cons_succ]))
    (refine heldTake (i := 15) (oi := { dst := some 63, op := Op.move (Operand.tmp 62), type := 4, pos := "law.go:38", after := #[{ on := 14, ground := Ground.data }, { on := 13, ground := Ground.chain }], guard := none }) (v := ?_) rfl (by kernel_rfl) (by kernel_rfl) (by kernel_rfl) (by assumption) ?_ ?_; rotate_left; focus (refine .inl ⟨by kernel_rfl, ?_⟩; intro w hSw; (try dsimp only at hSw); go_simp; (try with_reducible rfl)); (try simp only [Act.put, List.setIfInBounds_toArray, List.set_cons_zero, List.set_cons_succ]))
    (refine heldTake (i := 16) (oi := { dst := some 64, op := Op.load 35 (Operand.tmp 6), type := 35, pos := "law.go:38", after := #[{ on := 15, ground := Ground.guard }], guard := some (15, true) }) (v := ?_) rfl (by kernel_rfl) (by kernel_rfl) (by kernel_rfl) (by assumption) ?_ ?_; rotate_left; focus (refine .inl ⟨by kernel_rfl, ?_⟩; intro w hSw; (try dsimp only at hSw); go_simp; (try with_reducible rfl)); (try simp only [Act.put, List.setIfInBounds_toArray, List.set_cons_zero, List.set_cons_succ]))
    refine wpAnyH_ready (rs := [17]) (by kernel_rfl) (by simp) ?_
    refine AllReadyH.cons (o := { dst := some 65, op := Op.call { callee := Callee.value (Operand.func 22), args := #[Operand.tmp 64], argTypes := #[35] }, type := 3, pos := "law.go:38", after := #[{ on := 16, ground := Ground.data }, { on := 15, ground := Ground.chain }, { on := 15, ground := Ground.guard }], guard := some (15, true) }) rfl (fun K hK => ?_) AllReadyH.nil
    go_simp
    (go_at_call 22; (with_reducible refine (HLf.out _ p (And.left hHeld13).sc).mono ?_); rintro e w12 ⟨rfl, m, rfl⟩; have hk12 := (PEG.below (And.left hHeld13) (below_drewN (Below.refl _ _) m)).all cb)
    refine hK.out _ _ hk12 (fun hHeld17 => ?_)
    clear hK K hHeld13
    (try simp only [Act.put, List.setIfInBounds_toArray, List.set_cons_zero, List.set_cons_succ])
    (refine heldTake (i := 18) (oi := { dst := some 66, op := Op.binOp BinOp.eql 3 (Operand.tmp 65) (Operand.const (Value.int IntKind.i64 1)) 3, type := 4, pos := "law.go:38", after := #[{ on := 17, ground := Ground.data }, { on := 15, ground := Ground.guard }], guard := some (15, true) }) (v := ?_) rfl (by kernel_rfl) (by kernel_rfl) (by kernel_rfl) (by assumption) ?_ ?_; rotate_left; focus (refine .inl ⟨by kernel_rfl, ?_⟩; intro w hSw; (try dsimp only at hSw); go_simp; (try with_reducible rfl)); (try simp only [Act.put, List.setIfInBounds_toArray, List.set_cons_zero, List.set_cons_succ]))
    (refine heldTake (i := 19) (oi := { dst := some 67, op := Op.pick (Operand.tmp 63) (Operand.tmp 66) (Operand.const (Value.bool false)), type := 4, pos := "law.go:38", after := #[{ on := 15, ground := Ground.data }, { on := 18, ground := Ground.data }], guard := none }) (v := ?_) rfl (by kernel_rfl) (by kernel_rfl) (by kernel_rfl) (by assumption) ?_ ?_; rotate_left; focus (refine .inl ⟨by kernel_rfl, ?_⟩; intro w hSw; (try dsimp only at hSw); go_simp; (try with_reducible rfl)); (try simp only [Act.put, List.setIfInBounds_toArray, List.set_cons_zero, List.set_cons_succ]))
    (refine heldTake (i := 20) (oi := { dst := some 2, op := Op.assign (Operand.tmp 67), type := 4, pos := "law.go:38", after := #[{ on := 19, ground := Ground.data }, { on := 17, ground := Ground.chain }, { on := 0, ground := Ground.phase }, { on := 1, ground := Ground.phase }, { on := 2, ground := Ground.phase }, { on := 3, ground := Ground.phase }, { on := 4, ground := Ground.phase }, { on := 5, ground := Ground.phase }, { on := 6, ground := Ground.phase }, { on := 7, ground := Ground.phase }, { on := 8, ground := Ground.phase }, { on := 9, ground := Ground.phase }, { on := 10, ground := Ground.phase }, { on := 11, ground := Ground.phase }, { on := 12, ground := Ground.phase }, { on := 13, ground := Ground.phase }, { on := 14, ground := Ground.phase }, { on := 15, ground := Ground.phase }, { on := 16, ground := Ground.phase }, { on := 17, ground := Ground.phase }, { on := 18, ground := Ground.phase }, { on := 19, ground := Ground.phase }], guard := none }) (v := ?_) rfl (by kernel_rfl) (by kernel_rfl) (by kernel_rfl) (by assumption) ?_ ?_; rotate_left; focus (refine .inl ⟨by kernel_rfl, ?_⟩; intro w hSw; (try dsimp only at hSw); go_simp; (try with_reducible rfl)); (try simp only [Act.put, List.setIfInBounds_toArray, List.set_cons_zero, List.set_cons_succ]))
    refine wpAnyH_done (by kernel_rfl) ?_ _
    refine NoPanic.normal ?_
    have hLast := hHeld17
    clear hHeld17
    go_wp2
    go_ret
    exact ⟨rfl, (And.left hLast).a.bel⟩
  · rw [if_neg hz] at HPU
    have dz : (rG x != 0) = true := zb_of (by simpa using hz)
    generalize rG x = z at *
    clear hz g2 oi ni
    go_enter Tryd.func11, Tryd.ntmps11
    go_wp2_with (first
      | (go_at_call 60; go_must ((with_reducible refine HAW.out.mono ?_); rintro e w1 ⟨rfl, hb⟩; have H1 := Lib.hid (H0.out.on hb); obtain ⟨c0, c1, c2, c3, c4, c5⟩ := H1.out.bx.1.1.gl; clear hb))
      | (go_at_call 61; go_must ((with_reducible refine (HRR.out _).mono ?_); rintro e w2 ⟨rfl, hb⟩; clear c0 c1 c2 c3 c4 c5; have H2 := Lib.hid (H1.out.on hb); obtain ⟨c0, c1, c2, c3, c4, c5⟩ := H2.out.bx.1.1.gl; clear hb))
      | (go_at_call 62; go_must ((with_reducible refine (HPU.out _ H2.out.tb).mono ?_); intro e w3 hq; obtain ⟨v, rfl, hr, hb⟩ := hq; obtain ⟨Ab, cb, rfl, _⟩ := hr.pc; clear c0 c1 c2 c3 c4 c5; have H3 := Lib.hid (H2.out.on hb); obtain ⟨c0, c1, c2, c3, c4, c5⟩ := H3.out.bx.1.1.gl; clear hb hr))
      | (go_at_call 63; go_must ((with_reducible refine (HIR.out _ H3.out.tb).mono ?_); rintro e w4 ⟨rfl, hb⟩; clear c0 c1 c2 c3 c4 c5; have H4 := Lib.hid (H3.out.on hb); clear hb)))
    go_ret
    exact ⟨rfl, bxG_bel H4.out.bx⟩
end Go.Proofs.YticgmfeihdankaaDoor

/- What the rows list of the tables of package ops, as the walks want it; a world that holds them. -/
namespace Go.Proofs.YticgmfeihdankaaDoor
set_option linter.unusedVariables false
open Go.Shelf Go.Lib

theorem laidOut : laidOutB Tryd.prog = true := by kernel_rfl
theorem own : ownKnob Tryd.prog.godebug = none := by kernel_rfl
/-- What the rows list. -/
def listed : List (String × DataW Unit) := [("creel/ops.controlNames", Rows.laid_creel_ops_controlNames), ("creel/ops.memoryNames", Rows.laid_creel_ops_memoryNames), ("creel/ops.testNames", Rows.laid_creel_ops_testNames), ("creel/ops.numberNames", Rows.laid_creel_ops_numberNames), ("creel/ops.convertNames", Rows.laid_creel_ops_convertNames), ("creel/ops.accesses", Rows.laid_creel_ops_accesses)]
theorem listed_plain (W : World) : laidMetH Tryd.prog listed W = laidMet Tryd.prog listed W := Go.MakeChecks.laidMetH_plain _ _ _ (by kernel_rfl)

theorem cInt : Tryd.prog.cellsOf 3 = 1 := by kernel_rfl
theorem cBool : Tryd.prog.cellsOf 4 = 1 := by kernel_rfl
theorem cByte : Tryd.prog.cellsOf 5 = 1 := by kernel_rfl
theorem cStr : Tryd.prog.cellsOf 9 = 1 := by kernel_rfl
theorem cAcc : Tryd.prog.cellsOf 201 = 4 := by kernel_rfl

/-- A list cut into pieces of n. -/
theorem pieces {α : Type} (n : Nat) (g : α → List Value) : ∀ (l : List α) (L : List Value), L.length = l.length * n → (∀ k a, l[k]? = some a → (L.drop (k * n)).take n = g a) → L = l.flatMap g
  | [], L, hl, _ => List.eq_nil_of_length_eq_zero (by simpa using hl)
  | x :: r, L, hl, h => by
    have h0 := h 0 x rfl
    rw [Nat.zero_mul, List.drop_zero] at h0
    have hr := pieces n g r (L.drop n) (by rw [List.length_drop, hl, List.length_cons, Nat.add_mul]; omega) (fun k a hk => by
      have := h (k + 1) a hk
      rw [List.drop_drop, ← this]
      congr 2
      rw [Nat.add_mul]
      omega)
    rw [List.flatMap_cons, ← hr, ← h0, List.take_append_drop]

theorem map_flat {α : Type} (f : α → Value) : ∀ l : List α, l.map f = l.flatMap fun a => [f a]
  | [] => rfl
  | x :: r => by rw [List.map_cons, List.flatMap_cons, map_flat f r]; rfl
section
variable {H : Type} {enc : TypeId × Value → H} {w : World} {base : Nat} {sp : Nat → Bool} {held : Bool} {fuel : Nat}
theorem strs_of {t : TypeId} {n : Nat} {cs : Array Value} {l : List (List UInt8)} {p : List MemPlace} (ht : Tryd.prog.underlying t = some (.array n 9)) (hc : Tryd.prog.cellsOf t = n) (hn : l.length = n)
    (h : DataW.trod enc Tryd.prog w base sp held fuel t cs.toList = some (.agg (l.map fun s => .lit (.string s)), p)) : cs = strs l := by
  obtain ⟨_, _, _, _, hl, _, _⟩ := DataW.trod_array ht h
  apply Array.toList_inj.1
  have e : (strs l).toList = l.flatMap fun s => [.string (S s)] := by
    show l.map _ = _
    exact map_flat _ l
  rw [e]
  refine pieces 1 _ l cs.toList (by omega) (fun k a hk => ?_)
  obtain ⟨hk', rfl⟩ := List.getElem?_eq_some_iff.1 hk
  obtain ⟨f, d, q, h1, h2⟩ := array_elem ht h k (by omega)
  rw [cStr] at h2
  obtain ⟨s, hs, he, _⟩ := DataW.trod_string Tryd.underlying9 h2
  rw [hs]
  rw [List.getElem?_map, hk] at h1
  simp only [Option.map_some, Option.some.injEq] at h1
  rw [Prod.mk.injEq] at he
  rw [← h1] at he
  have e2 : l[k] = s.data.toList := by simpa using he.1
  rw [e2, S_of]
set_option maxRecDepth 100000 in
/-- A part of the table of accesses. -/
theorem quad_of {cs : List Value} {a : AccR} {p : List MemPlace}
    (h : DataW.trod enc Tryd.prog w base sp held fuel 201 cs = some (.agg [.lit (.int .i64 a.n), .lit (.int .u8 a.t), .lit (.bool a.wr), .lit (.bool a.sg)], p)) : cs = [.int .i64 a.n, .int .u8 a.t, .bool a.wr, .bool a.sg] := by
  obtain ⟨xs, m, rfl, hx, hl, hxl, hall⟩ := DataW.trod_struct Tryd.underlying201 h
  rw [cAcc] at hl
  have h0 : DataW.trod enc Tryd.prog w base sp held m 3 ((cs.drop 0).take (Tryd.prog.cellsOf 3)) = xs[0]? := hall 0 _ rfl
  have h1 : DataW.trod enc Tryd.prog w base sp held m 5 ((cs.drop 1).take (Tryd.prog.cellsOf 5)) = xs[1]? := hall 1 _ rfl
  have h2 : DataW.trod enc Tryd.prog w base sp held m 4 ((cs.drop 2).take (Tryd.prog.cellsOf 4)) = xs[2]? := hall 2 _ rfl
  have h3 : DataW.trod enc Tryd.prog w base sp held m 4 ((cs.drop 3).take (Tryd.prog.cellsOf 4)) = xs[3]? := hall 3 _ rfl
  rw [cInt] at h0
  rw [cByte] at h1
  rw [cBool] at h2 h3
  match xs, hxl, cs, hl with
  | [x0, x1, x2, x3], _, [u0, u1, u2, u3], _ =>
    simp only [List.map_cons, List.map_nil, Prod.mk.injEq, DataW.agg.injEq, List.cons.injEq, and_true] at hx
    obtain ⟨⟨e0, e1, e2, e3⟩, _⟩ := hx
    simp only [List.drop_zero, List.drop_succ_cons, List.getElem?_cons_zero, List.getElem?_cons_succ, List.take_succ_cons, List.take_zero] at h0 h1 h2 h3
    obtain ⟨z0, y0, rfl, _⟩ := DataW.trod_int Tryd.underlying3 h0
    obtain ⟨z1, y1, rfl, _⟩ := DataW.trod_int Tryd.underlying5 h1
    obtain ⟨z2, y2, rfl⟩ := DataW.trod_bool Tryd.underlying4 h2
    obtain ⟨z3, y3, rfl⟩ := DataW.trod_bool Tryd.underlying4 h3
    have e0' : (a.n : Int) = z0 := by simpa using e0
    have e1' : (a.t : Int) = z1 := by simpa using e1
    have e2' : a.wr = z2 := by simpa using e2
    have e3' : a.sg = z3 := by simpa using e3
    rw [e0', e1', e2', e3']
    have y0' : u0 = .int .i64 z0 := by simpa using y0
    have y1' : u1 = .int .u8 z1 := by simpa using y1
    have y2' : u2 = .bool z2 := by simpa using y2
    have y3' : u3 = .bool z3 := by simpa using y3
    rw [y0', y1', y2', y3']
theorem acc_of {t : TypeId} {n : Nat} {cs : Array Value} {l : List AccR} {p : List MemPlace} (ht : Tryd.prog.underlying t = some (.array n 201)) (hc : Tryd.prog.cellsOf t = n * 4) (hn : l.length = n)
    (h : DataW.trod enc Tryd.prog w base sp held fuel t cs.toList = some (.agg (l.map fun a => .agg [.lit (.int .i64 a.n), .lit (.int .u8 a.t), .lit (.bool a.wr), .lit (.bool a.sg)]), p)) : cs = accCells l := by
  obtain ⟨_, _, _, _, hl, _, _⟩ := DataW.trod_array ht h
  apply Array.toList_inj.1
  show cs.toList = l.flatMap _
  refine pieces 4 _ l cs.toList (by omega) (fun k a hk => ?_)
  obtain ⟨hk', rfl⟩ := List.getElem?_eq_some_iff.1 hk
  obtain ⟨f, d, q, h1, h2⟩ := array_elem ht h k (by omega)
  rw [cAcc] at h2
  rw [List.getElem?_map, hk] at h1
  simp only [Option.map_some, Option.some.injEq] at h1
  subst h1
  exact quad_of h2
end
theorem heap_of {W : World} {x : String} {g : Nat} {cs : Array Value} (hg : Tryd.prog.globalNamed x = some g) (hv : W.var? Tryd.prog x = some cs) : ∃ t fr, W.heap[g]? = some (.cells cs t fr) := by
  simp only [World.var?, hg, Option.bind_some] at hv
  split at hv
  · rename_i c t fr hb
    cases hv
    exact ⟨t, fr, hb⟩
  · cases hv
theorem n0 : Tryd.prog.globalNamed "creel/ops.controlNames" = some 0 := by kernel_rfl
theorem y0 : (Tryd.prog.globals[0]?).map (·.type) = some 194 := by kernel_rfl
theorem d0 : (Rows.laid_creel_ops_controlNames : DataW Unit) = .agg (tab0.map fun s => .lit (.string s)) := by kernel_rfl
theorem t0 {W : World} (h : laidMet Tryd.prog listed W) : ∃ t fr, W.heap[0]? = some (.cells (strs tab0) t fr) := by
  obtain ⟨g, t, cs, fuel, p, hg, hty, hvar, hd⟩ := Lib.laidMet.reads h (show ("creel/ops.controlNames", Rows.laid_creel_ops_controlNames) ∈ listed from .head _)
  obtain rfl := Option.some.inj (n0.symm.trans hg)
  obtain rfl := Option.some.inj (y0.symm.trans hty)
  rw [d0] at hd
  obtain rfl := strs_of Tryd.underlying194 (by kernel_rfl) (by kernel_rfl) hd
  exact heap_of n0 hvar
theorem n1 : Tryd.prog.globalNamed "creel/ops.memoryNames" = some 1 := by kernel_rfl
theorem y1 : (Tryd.prog.globals[1]?).map (·.type) = some 195 := by kernel_rfl
theorem d1 : (Rows.laid_creel_ops_memoryNames : DataW Unit) = .agg (tab1.map fun s => .lit (.string s)) := by kernel_rfl
theorem t1 {W : World} (h : laidMet Tryd.prog listed W) : ∃ t fr, W.heap[1]? = some (.cells (strs tab1) t fr) := by
  obtain ⟨g, t, cs, fuel, p, hg, hty, hvar, hd⟩ := Lib.laidMet.reads h (show ("creel/ops.memoryNames", Rows.laid_creel_ops_memoryNames) ∈ listed from .tail _ (.head _))
  obtain rfl := Option.some.inj (n1.symm.trans hg)
  obtain rfl := Option.some.inj (y1.symm.trans hty)
  rw [d1] at hd
  obtain rfl := strs_of Tryd.underlying195 (by kernel_rfl) (by kernel_rfl) hd
  exact heap_of n1 hvar
theorem n2 : Tryd.prog.globalNamed "creel/ops.testNames" = some 2 := by kernel_rfl
theorem y2 : (Tryd.prog.globals[2]?).map (·.type) = some 196 := by kernel_rfl
theorem d2 : (Rows.laid_creel_ops_testNames : DataW Unit) = .agg (tab2.map fun s => .lit (.string s)) := by kernel_rfl
theorem t2 {W : World} (h : laidMet Tryd.prog listed W) : ∃ t fr, W.heap[2]? = some (.cells (strs tab2) t fr) := by
  obtain ⟨g, t, cs, fuel, p, hg, hty, hvar, hd⟩ := Lib.laidMet.reads h (show ("creel/ops.testNames", Rows.laid_creel_ops_testNames) ∈ listed from .tail _ (.tail _ (.head _)))
  obtain rfl := Option.some.inj (n2.symm.trans hg)
  obtain rfl := Option.some.inj (y2.symm.trans hty)
  rw [d2] at hd
  obtain rfl := strs_of Tryd.underlying196 (by kernel_rfl) (by kernel_rfl) hd
  exact heap_of n2 hvar
theorem n3 : Tryd.prog.globalNamed "creel/ops.numberNames" = some 3 := by kernel_rfl
theorem y3 : (Tryd.prog.globals[3]?).map (·.type) = some 197 := by kernel_rfl
theorem d3 : (Rows.laid_creel_ops_numberNames : DataW Unit) = .agg (tab3.map fun s => .lit (.string s)) := by kernel_rfl
theorem t3 {W : World} (h : laidMet Tryd.prog listed W) : ∃ t fr, W.heap[3]? = some (.cells (strs tab3) t fr) := by
  obtain ⟨g, t, cs, fuel, p, hg, hty, hvar, hd⟩ := Lib.laidMet.reads h (show ("creel/ops.numberNames", Rows.laid_creel_ops_numberNames) ∈ listed from .tail _ (.tail _ (.tail _ (.head _))))
  obtain rfl := Option.some.inj (n3.symm.trans hg)
  obtain rfl := Option.some.inj (y3.symm.trans hty)
  rw [d3] at hd
  obtain rfl := strs_of Tryd.underlying197 (by kernel_rfl) (by kernel_rfl) hd
  exact heap_of n3 hvar
theorem n4 : Tryd.prog.globalNamed "creel/ops.convertNames" = some 4 := by kernel_rfl
theorem y4 : (Tryd.prog.globals[4]?).map (·.type) = some 198 := by kernel_rfl
theorem d4 : (Rows.laid_creel_ops_convertNames : DataW Unit) = .agg (tab4.map fun s => .lit (.string s)) := by kernel_rfl
theorem t4 {W : World} (h : laidMet Tryd.prog listed W) : ∃ t fr, W.heap[4]? = some (.cells (strs tab4) t fr) := by
  obtain ⟨g, t, cs, fuel, p, hg, hty, hvar, hd⟩ := Lib.laidMet.reads h (show ("creel/ops.convertNames", Rows.laid_creel_ops_convertNames) ∈ listed from .tail _ (.tail _ (.tail _ (.tail _ (.head _)))))
  obtain rfl := Option.some.inj (n4.symm.trans hg)
  obtain rfl := Option.some.inj (y4.symm.trans hty)
  rw [d4] at hd
  obtain rfl := strs_of Tryd.underlying198 (by kernel_rfl) (by kernel_rfl) hd
  exact heap_of n4 hvar
theorem n5 : Tryd.prog.globalNamed "creel/ops.accesses" = some 5 := by kernel_rfl
theorem y5 : (Tryd.prog.globals[5]?).map (·.type) = some 210 := by kernel_rfl
theorem d5 : (Rows.laid_creel_ops_accesses : DataW Unit) = .agg (tabA.map fun a => .agg [.lit (.int .i64 a.n), .lit (.int .u8 a.t), .lit (.bool a.wr), .lit (.bool a.sg)]) := by kernel_rfl
theorem t5 {W : World} (h : laidMet Tryd.prog listed W) : ∃ t fr, W.heap[5]? = some (.cells (accCells tabA) t fr) := by
  obtain ⟨g, t, cs, fuel, p, hg, hty, hvar, hd⟩ := Lib.laidMet.reads h (show ("creel/ops.accesses", Rows.laid_creel_ops_accesses) ∈ listed from .tail _ (.tail _ (.tail _ (.tail _ (.tail _ (.head _))))))
  obtain rfl := Option.some.inj (n5.symm.trans hg)
  obtain rfl := Option.some.inj (y5.symm.trans hty)
  rw [d5] at hd
  obtain rfl := acc_of Tryd.underlying210 (by kernel_rfl) (by kernel_rfl) hd
  exact heap_of n5 hvar
theorem tabs_of {W : World} (h : laidMetH Tryd.prog listed W) : Tabs W := by
  rw [listed_plain] at h
  exact ⟨t0 h, t1 h, t2 h, t3 h, t4 h, t5 h⟩

/-- The settled world, the tables laid. -/
noncomputable def laidWorld (os : Os) : World :=
  let w0 := World.holding Tryd.prog os ⟨#[], #[], []⟩
  let put (h : Array Obj) (g : Nat) (cs : Array Value) : Array Obj := h.modify g fun
    | .cells _ t frozen => .cells cs t frozen
    | o => o
  let h0 := put w0.heap 0 (strs tab0)
  let h1 := put h0 1 (strs tab1)
  let h2 := put h1 2 (strs tab2)
  let h3 := put h2 3 (strs tab3)
  let h4 := put h3 4 (strs tab4)
  { w0 with heap := put h4 5 (accCells tabA) }
theorem laidWorld_met (os : Os) (args : Array Value) : laidMetH Tryd.prog listed ((laidWorld os).forCall (fun _ _ => 0) ⟨#[], args, []⟩).memory := by
  rw [listed_plain]
  exact (LaidIn.of_run (l := listed) [0, 1, 2, 3, 4, 5] 8 (by kernel_rfl) (by kernel_rfl) (by kernel_rfl) (by kernel_rfl)).met
end Go.Proofs.YticgmfeihdankaaDoor
