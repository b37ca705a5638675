/- The scanner's At and Int; getOp, getBlock, getNumber, wire.Nought of bytes that are right. -/
import Derived.Test.YtebgmfjgapmpfaaDoorQg04
import Derived.Test.YtebgmfjgapmpfaaDoorQg06
import Derived.Test.YtebgmfjgapmpfaaDoorQg02
import Derived.RegionTactic
namespace Go.Proofs.YtebgmfjgapmpfaaDoor
open Go.RowKit
set_option linter.unusedVariables false
set_option maxRecDepth 100000

/-- The tables lie below p, and nothing there has turned. -/
def TbP (p : Nat) (w : World) : Prop := ∃ W0, Tabs W0 ∧ W0.heap.size ≤ p ∧ Below W0.heap.size W0 w
theorem TbP.tabs {p : Nat} {w : World} (h : TbP p w) : Tabs w := by
  obtain ⟨W0, h1, _, h3⟩ := h
  exact h1.below h3
theorem TbP.of {p : Nat} {w : World} (h : Tabs w) (hp : w.heap.size ≤ p) : TbP p w := ⟨w, h, hp, Below.refl _ _⟩
theorem TbP.grown {p : Nat} {w w' : World} {row : Option Nat} (h : TbP p w) (hg : w.grownBy w' row) (hr : ∀ g, row = some g → p ≤ g) : TbP p w' := by
  obtain ⟨W0, h1, h2, h3⟩ := h
  exact ⟨W0, h1, h2, Below.grown h3 hg h3.size (fun g e => Nat.le_trans h2 (hr g e))⟩
theorem TbP.below {p B : Nat} {w w' : World} (h : TbP p w) (hb : Below B w w') (hB : p ≤ B) : TbP p w' := by
  obtain ⟨W0, h1, h2, h3⟩ := h
  exact ⟨W0, h1, h2, h3.trans (hb.mono (Nat.le_trans h2 hB))⟩
theorem TbP.self {p : Nat} {w w' : World} (h : TbP p w) (hg : w.grownBy w' (some p)) : TbP p w' := h.grown hg (fun g e => by injection e with e; omega)

theorem at_any {w : World} {p : Nat} {l : List UInt8} {k : Nat} (h : Sc w p l k) : Calls Tryd.prog 34 #[.pointer (some ⟨p, 0, none⟩)] w fun e w' => e = .returned (.int .i64 k) ∧ w = w' := by
  have c1 := h.at
  clear h
  go_enter Tryd.func34, Tryd.ntmps34
  go_wp2
  go_ret
  exact ⟨rfl, rfl⟩
abbrev encS64 (v : Int) : Value := .int .i64 v
theorem readI_at {w : World} {B : Nat} {A : Option Addr} {cap : Nat} {l r : List UInt8} {k n : Nat} {x : Int} (hl : Lies w B A (cells (nums l))) (hc : l.length ≤ cap) (hm : cap ≤ maxLen) (h : l.drop k = sebL x ++ r)
    (h0 : -2 ^ (n - 1) ≤ x) (h1 : x < 2 ^ (n - 1)) (n1 : 1 ≤ n) (n2 : n ≤ 64) (hk : k ≤ l.length) :
    Calls Tryd.prog 145 #[.slice A l.length cap, .int .i64 k, .int .i64 n] w fun e w' => e = .returned (.tuple #[.int .i64 x, .int .i64 ((k + (sebL x).length : Nat) : Int), .int .i64 0]) ∧ w = w' := by
  have m63 : (2 : Int) ^ (n - 1) ≤ 2 ^ 63 := mono2 (by omega)
  have e63 : (2 : Int) ^ 63 = 9223372036854775808 := rfl
  have hna := sebN_least x (by omega) (by omega)
  have hlen := sebL_length x
  have hnl := nums_sebL x
  obtain ⟨p, c, he, hg, hx, c0, c1, hf, hp⟩ := least_s h0 h1 n1 n2 hna
  rw [he] at hlen hnl
  have hd : (nums l).drop k = grps x p ++ c :: nums r := by
    have : (nums l).drop k = nums (l.drop k) := by unfold nums; rw [List.map_drop]
    rw [this, h, nums_append, hnl, ← he, hg]
    simp
  have hS : Stop ((n + 6) / 7) ((nums l).drop k) p := by rw [hd]; exact grps_stop x p _ c _ c1 (by omega)
  have hpc : ((nums l).drop k)[p]? = some c := by rw [hd]; exact grps_at x p c _
  have hN := nums_length l
  rw [← hN] at hc hk ⊢
  refine (ri_ok (nums l) A cap B k n p c w hl (nums_wf l) hc hm hk n1 n2 hS hp hpc hf).mono ?_
  rintro e w' ⟨rfl, rfl⟩
  refine ⟨?_, rfl⟩
  have e1 : numS (((nums l).drop k).take p) c = x := by
    rw [hd, grps_take]
    unfold numS
    rw [low_grps, grps_length]
    exact hx
  rw [e1, hlen]
  simp
set_option maxHeartbeats 800000 in
theorem numberI_scan {w : World} {p : Nat} {l r : List UInt8} {k n : Nat} {x : Int} (hs : Sc w p l k) (h : l.drop k = sebL x ++ r) (h0 : -2 ^ (n - 1) ≤ x) (h1 : x < 2 ^ (n - 1)) (n1 : 1 ≤ n) (n2 : n ≤ 64) :
    Calls Tryd.prog 144 #[.pointer (some ⟨p, 0, none⟩), .int .i64 n, .func (.func 145) #[] #[]] w (Did encS64 p l w (.ok x (k + (sebL x).length))) := by
  have c1 := hs.at
  obtain ⟨A, cap, c0, hl, hc, hm⟩ := hs.data
  have hU : ∀ m, _ := fun m => readI_at (w := w.drewN m) (n := n) hl hc hm h h0 h1 n1 n2 hs.le.1
  have HK : Hid (k + (sebL x).length ≤ l.length) := by
    have := congrArg List.length h
    have hk := hs.le.1
    rw [List.length_drop, List.length_append] at this
    show _ ≤ _
    omega
  have HU := Lib.hid hU
  have HS := Lib.hid hs
  have f1 := hs.free
  obtain ⟨k', hk'⟩ : ∃ k', k' = k + (sebL x).length := ⟨_, rfl⟩
  rw [← hk'] at HU HK ⊢
  clear hU hl hs h hk'
  go_enter Tryd.func144, Tryd.ntmps144
  go_wp2
  go_quiet (first
    | (go_at_call 145; exact (HU.out _).mono fun _ _ h => ⟨h.1, _, h.2.symm⟩))
  go_wp2_with (go_at_call 80; go_must ((with_reducible refine (unlessT _ _ _).mono ?_); rintro e w' ⟨rfl, rfl⟩))
  go_ret
  exact ⟨rfl, HS.out.moved nq k' k' rfl HK.out⟩
theorem int_scan {w : World} {p : Nat} {l r : List UInt8} {k n : Nat} {x : Int} (hs : Sc w p l k) (h : l.drop k = sebL x ++ r) (h0 : -2 ^ (n - 1) ≤ x) (h1 : x < 2 ^ (n - 1)) (n1 : 1 ≤ n) (n2 : n ≤ 64) :
    Calls Tryd.prog 116 #[.pointer (some ⟨p, 0, none⟩), .int .i64 n] w (Did encS64 p l w (.ok x (k + (sebL x).length))) := by
  have HN := Lib.hid (numberI_scan hs h h0 h1 n1 n2)
  clear hs h h0 h1
  generalize k + (sebL x).length = k' at *
  go_enter Tryd.func116, Tryd.ntmps116
  go_wp2_with (go_at_call 144; go_must ((with_reducible refine HN.out.mono ?_); rintro e w1 ⟨rfl, hs, hg⟩; have HS := Lib.hid hs; have HG := Lib.hid hg; clear hs hg))
  go_ret
  exact ⟨rfl, HS.out, HG.out⟩

theorem getOp_ok {w : World} {p : Nat} {l r : List UInt8} {k : Nat} {c : UInt8} (hs : Sc w p l k) (hT : TbP p w) (h : l.drop k = c :: r) (hc : checkR c.toNat = 0) :
    Calls Tryd.prog 112 #[.pointer (some ⟨p, 0, none⟩)] w (Did encB p l w (.ok c (k + 1))) := by
  have hB := byte_any hs
  rw [byteR_at h] at hB
  have HB := Lib.hid hB
  have HA := Lib.hid (at_any hs)
  have HT := Lib.hid hT
  have HC := Lib.hid (fun W (h : Tabs W) => by have := check_any c.toNat W h (by have := c.toNat_lt; omega); rw [hc] at this; exact this)
  clear hs hT h hB hc
  go_enter Tryd.func112, Tryd.ntmps112
  go_wp2_with (first
    | (go_at_call 34; go_must ((with_reducible refine HA.out.mono ?_); rintro e w' ⟨rfl, rfl⟩))
    | (go_at_call 81; go_must ((with_reducible refine HB.out.mono ?_); rintro e w1 ⟨rfl, hs, hg⟩; have HS := Lib.hid hs; have HG := Lib.hid hg; clear hs hg))
    | (go_at_call 65; go_must ((with_reducible refine (HC.out _ (HT.out.self HG.out).tabs).mono ?_); rintro e w' ⟨rfl, rfl⟩))
    | (go_at_call 80; go_must ((with_reducible refine (unlessT _ _ _).mono ?_); rintro e w' ⟨rfl, rfl⟩)))
  go_ret
  exact ⟨rfl, HS.out, HG.out⟩
theorem getBlock_ok {w : World} {p : Nat} {l r : List UInt8} {k : Nat} {c : UInt8} (hs : Sc w p l k) (h : l.drop k = c :: r) (hc : blockZ c.toNat = 0) :
    Calls Tryd.prog 113 #[.pointer (some ⟨p, 0, none⟩)] w (Did enc64 p l w (.ok c.toNat (k + 1))) := by
  have hB := byte_any hs
  rw [byteR_at h] at hB
  have HB := Lib.hid hB
  have HA := Lib.hid (at_any hs)
  have hw : IntKind.u64.wrap (c.toNat : Int) = c.toNat := by have := c.toNat_lt; simp [IntKind.wrap, IntKind.bits, IntKind.signed]; omega
  have HC := Lib.hid (fun W => by have := block_any c.toNat W (by omega); rw [hc] at this; exact this)
  clear hs h hB hc
  go_enter Tryd.func113, Tryd.ntmps113
  go_wp2_with (first
    | (go_at_call 34; go_must ((with_reducible refine HA.out.mono ?_); rintro e w' ⟨rfl, rfl⟩))
    | (go_at_call 81; go_must ((with_reducible refine HB.out.mono ?_); rintro e w1 ⟨rfl, hs, hg⟩; have HS := Lib.hid hs; have HG := Lib.hid hg; clear hs hg))
    | (go_at_call 109; go_must ((with_reducible refine (HC.out _).mono ?_); rintro e w' ⟨rfl, rfl⟩))
    | (go_at_call 80; go_must ((with_reducible refine (unlessT _ _ _).mono ?_); rintro e w' ⟨rfl, rfl⟩)))
  go_ret
  exact ⟨rfl, HS.out, HG.out⟩
theorem getNumber_ok {w : World} {p : Nat} {l r : List UInt8} {k : Nat} {x : Int} (hs : Sc w p l k) (h : l.drop k = lebL x ++ r) (h0 : 0 ≤ x) (h1 : x ≤ 4294967295) :
    Calls Tryd.prog 114 #[.pointer (some ⟨p, 0, none⟩)] w (Did enc64 p l w (.ok x (k + (lebL x).length))) := by
  have hN := index_scan hs
  rw [indexR_at h h0 h1] at hN
  have HN := Lib.hid hN
  have hw : IntKind.u64.wrap x = x := by simp [IntKind.wrap, IntKind.bits, IntKind.signed]; omega
  generalize k + (lebL x).length = k' at *
  clear hs h hN
  go_enter Tryd.func114, Tryd.ntmps114
  go_wp2_with (go_at_call 139; go_must ((with_reducible refine HN.out.mono ?_); rintro e w1 ⟨rfl, hs, hg⟩; have HS := Lib.hid hs; have HG := Lib.hid hg; clear hs hg))
  go_ret
  exact ⟨rfl, HS.out, HG.out⟩
theorem getNought_ok {w : World} {p : Nat} {l r : List UInt8} {k : Nat} (hs : Sc w p l k) (h : l.drop k = 0 :: r) :
    Calls Tryd.prog 115 #[.pointer (some ⟨p, 0, none⟩)] w (Did encU p l w (.ok () (k + 1))) := by
  have hB := byte_any hs
  rw [byteR_at h] at hB
  have HB := Lib.hid hB
  have HA := Lib.hid (at_any hs)
  clear hs h hB
  go_enter Tryd.func115, Tryd.ntmps115
  go_wp2_with (first
    | (go_at_call 34; go_must ((with_reducible refine HA.out.mono ?_); rintro e w' ⟨rfl, rfl⟩))
    | (go_at_call 81; go_must ((with_reducible refine HB.out.mono ?_); rintro e w1 ⟨rfl, hs, hg⟩; have HS := Lib.hid hs; have HG := Lib.hid hg; clear hs hg))
    | (go_at_call 80; go_must ((with_reducible refine (unlessT _ _ _).mono ?_); rintro e w' ⟨rfl, rfl⟩)))
  go_end0
  exact ⟨rfl, HS.out, HG.out⟩
end Go.Proofs.YtebgmfjgapmpfaaDoor

/- instr.Get of an instruction's bytes. (By gen/genGet.py.) -/
namespace Go.Proofs.YtebgmfjgapmpfaaDoor
open Go.RowKit
set_option linter.unusedVariables false
set_option maxRecDepth 100000

theorem Lies.keep {W W' : World} {A : Option Addr} {vs : List Value} {q : Nat} (h : Lies W W.heap.size A vs) (hg : W.grownBy W' (some q)) (hq : ∀ a, A = some a → a.block ≠ q) : Lies W' W'.heap.size A vs := fun j v hv => by
  obtain ⟨b, off, rfl, hb, hc⟩ := h j v hv
  refine ⟨b, off, rfl, Nat.lt_of_lt_of_le hb hg.size, ?_⟩
  have hne : b ≠ q := hq _ rfl
  rw [← hc]
  unfold World.cell?
  rw [hg.block b hb (by simpa using hne)]
/-- How far Get has come: its result's block, the instruction's box, the scanner. -/
structure GSt (w : World) (p : Nat) (l : List UInt8) (H2 : Nat) (A : Option Addr) (ls : List Int) (k : Nat) (v0 v1 v2 v3 : Value) (W : World) : Prop where
  res : Whole W w.heap.size 25 #[.int .u8 0, .int .u64 0, .int .u64 0, .slice none 0 0]
  box : Whole W H2 25 #[v0, v1, v2, v3]
  sc : Sc W p l k
  gr : w.grownBy W (some p)
  hp : p < w.heap.size
  h2 : w.heap.size < H2
  tb : TbP p W
  lab : Lies W W.heap.size A (cells32 ls)
  far : ∀ a, A = some a → H2 < a.block
  ty : LabT W A ls
section
variable {w : World} {p : Nat} {l : List UInt8} {H2 : Nat} {A : Option Addr} {ls : List Int} {k k' : Nat} {v0 v1 v2 v3 : Value} {W W' : World}
theorem GSt.call (h : GSt w p l H2 A ls k v0 v1 v2 v3 W) (hs : Sc W' p l k') (hg : W.grownBy W' (some p)) : GSt w p l H2 A ls k' v0 v1 v2 v3 W' := by
  have a := h.hp
  have b := h.h2
  exact ⟨h.res.grown hg (by simp only [ne_eq, Option.some.injEq]; omega), h.box.grown hg (by simp only [ne_eq, Option.some.injEq]; omega), hs, gb_trans h.gr hg, h.hp, h.h2, h.tb.self hg, h.lab.keep hg (fun x hx => by have := h.far x hx; omega), h.far, h.ty.keep hg (fun x hx => by have := h.far x hx; simp only [ne_eq, Option.some.injEq]; omega)⟩
theorem GSt.below (h : GSt w p l H2 A ls k v0 v1 v2 v3 W) (hb : Below W.heap.size W W') : GSt w p l H2 A ls k v0 v1 v2 v3 W' :=
  h.call (h.sc.below hb) (gb_of_below _ hb)
theorem GSt.put (h : GSt w p l H2 A ls k v0 v1 v2 v3 W) (i : Nat) (x : Value) {u0 u1 u2 u3 : Value} (he : #[v0, v1, v2, v3].setIfInBounds i x = #[u0, u1, u2, u3]) : GSt w p l H2 A ls k u0 u1 u2 u3 (W.setCell ⟨H2, i, none⟩ x) := by
  have a := h.hp
  have b := h.h2
  have hg : W.grownBy (W.setCell ⟨H2, i, none⟩ x) (some H2) := gb_put (p := ⟨H2, i, none⟩) (gb_refl W _) (.inl rfl) x
  have hb := h.box.put i x
  rw [he] at hb
  exact ⟨h.res.grown hg (by simp only [ne_eq, Option.some.injEq]; omega), hb, h.sc.grown hg (by simp only [ne_eq, Option.some.injEq]; omega) (fun g e => by injection e with e; omega), gb_before h.gr hg (fun g e => .inr (by injection e with e; omega)), h.hp, h.h2,
    h.tb.grown hg (fun g e => by injection e with e; omega), h.lab.keep hg (fun x hx => by have := h.far x hx; omega), h.far, h.ty.keep hg (fun x hx => by have := h.far x hx; simp only [ne_eq, Option.some.injEq]; omega)⟩
theorem GSt.labs (h : GSt w p l H2 none [] k v0 v1 v2 v3 W) (hty : LabT W A ls) (hf : ∀ a, A = some a → H2 < a.block) : GSt w p l H2 A ls k v0 v1 v2 v3 W :=
  ⟨h.res, h.box, h.sc, h.gr, h.hp, h.h2, h.tb, hty.lies, hf, hty⟩
/-- The result is written. -/
theorem GSt.fin (h : GSt w p l H2 A ls k v0 v1 v2 v3 W) (x0 x1 x2 x3 : Value) (W4 : World) (hW : W4 = (((W.setCell ⟨w.heap.size, 0, none⟩ x0).setCell ⟨w.heap.size, 1, none⟩ x1).setCell ⟨w.heap.size, 2, none⟩ x2).setCell ⟨w.heap.size, 3, none⟩ x3) :
    Whole W4 w.heap.size 25 #[x0, x1, x2, x3] ∧ Sc W4 p l k ∧ w.grownBy W4 (some p) ∧ Lies W4 W4.heap.size A (cells32 ls) ∧ LabT W4 A ls := by
  subst hW
  have a := h.hp
  have b := h.h2
  have hg := gb_put (p := ⟨w.heap.size, 3, none⟩) (gb_put (p := ⟨w.heap.size, 2, none⟩) (gb_put (p := ⟨w.heap.size, 1, none⟩) (gb_put (p := ⟨w.heap.size, 0, none⟩) (gb_refl W (some w.heap.size)) (.inl rfl) x0) (.inl rfl) x1) (.inl rfl) x2) (.inl rfl) x3
  exact ⟨(((h.res.put 0 x0).put 1 x1).put 2 x2).put 3 x3, h.sc.grown hg (by simp only [ne_eq, Option.some.injEq]; omega) (fun g e => by injection e with e; omega), gb_before h.gr hg (fun g e => .inr (by injection e with e; omega)), h.lab.keep hg (fun x hx => by have := h.far x hx; omega), h.ty.keep hg (fun x hx => by have := h.far x hx; simp only [ne_eq, Option.some.injEq]; omega)⟩
end
/-- What Get hands back of an instruction's bytes. -/
def Gets (p : Nat) (l : List UInt8) (i : I) (k : Nat) (w : World) (e : Ending) (w' : World) : Prop :=
  ∃ A c, e = .returned (insV i A c) ∧ Lies w' w'.heap.size A (cells32 i.l) ∧ (∀ a, A = some a → w.heap.size ≤ a.block) ∧ Sc w' p l k ∧ w.grownBy w' (some p) ∧ LabT w' A i.l
theorem gets_end {w : World} {p : Nat} {l : List UInt8} {i : I} {H2 : Nat} {A : Option Addr} {c k k' : Nat} {v0 v1 v2 v3 : Value} {W W4 : World} {v : Value} (h : GSt w p l H2 A i.l k v0 v1 v2 v3 W) (hf : Sc W4 p l k ∧ w.grownBy W4 (some p) ∧ Lies W4 W4.heap.size A (cells32 i.l) ∧ LabT W4 A i.l) (he : v = insV i A c) (hk : k = k') :
    Gets p l i k' w (.returned v) W4 := by
  subst hk
  exact ⟨A, c, by rw [he], hf.2.2.1, fun a ha => by have := h.far a ha; have := h.h2; omega, hf.1, hf.2.1, hf.2.2.2⟩
theorem ins_eq {i : I} {a b : Int} {v : Value} (hb : i.b = b) (ha : i.a = a) (hl : i.l = []) (hv : v = .slice none 0 0) : Value.agg #[.int .u8 i.op.toNat, .int .u64 a, .int .u64 b, v] = insV i none 0 := by
  subst hv; subst ha; subst hb
  show _ = Value.agg #[.int .u8 i.op.toNat, .int .u64 i.a, .int .u64 i.b, .slice none i.l.length 0]
  rw [hl]
  rfl

set_option maxHeartbeats 3000000 in
theorem get_ok {w : World} {p : Nat} {l r : List UInt8} {k : Nat} {i : I} (h : i.Ok) (hr : rightZ i = 0) (hs : Sc w p l k) (hT : TbP p w) (hd : l.drop k = putL i ++ r) :
    Calls Tryd.prog 70 #[.pointer (some ⟨p, 0, none⟩)] w (Gets p l i (k + (putL i).length) w) := by
  have hn := i.n_le
  obtain ⟨a0, a1, b0, b1, hl0⟩ := h
  obtain ⟨hc0, hl3, h10, hb8, hz0⟩ := right_zero hr
  obtain ⟨hz1, hz2, hz3⟩ := nums_zero hz0 a0
  have hlt := hs.lt
  obtain ⟨m, hm⟩ : ∃ m, m = immR i.n := ⟨_, rfl⟩
  obtain ⟨inf, hinf⟩ : ∃ inf, inf = infR i.n := ⟨_, rfl⟩
  have him : inf.imm = m := by rw [hinf, hm]; exact (imm_same hn hc0).1
  have HI : Hid (∀ W, Tabs W → Calls Tryd.prog 66 #[.int .u8 i.op.toNat] W fun e w' => e = .returned (infV inf) ∧ Below W.heap.size W w') := fun W hW => by rw [hinf]; exact of_any i.n W hW hn
  have hfield := fun z wx => field_imm (S inf.name) (S inf.ps) (S inf.rs) z inf.free wx
  rw [← hm] at hz1 hz2 hz3 hl3 hb8
  have hp1 : putL i = i.op :: immB m i := by unfold putL immL; rw [hm]
  rw [hp1, List.cons_append] at hd
  have HPL := Lib.hid (show (putL i).length = 1 + (immB m i).length by rw [hp1, List.length_cons]; omega)
  have hd1 : l.drop (k + 1) = immB m i ++ r := drop_past (a := [i.op]) hd
  have HZ : Hid (Sc (w.alloc (.cells #[.int .u8 0, .int .u64 0, .int .u64 0, .slice none 0 0] 25)) p l k ∧ TbP p (w.alloc (.cells #[.int .u8 0, .int .u64 0, .int .u64 0, .slice none 0 0] 25))) := ⟨hs.alloc _, hT.below (below_box w _) (by omega)⟩
  have HOP := Lib.hid (getOp_ok HZ.out.1 HZ.out.2 hd hc0)
  have HWM := Lib.hid (Whole.made w 25 #[.int .u8 0, .int .u64 0, .int .u64 0, .slice none 0 0])
  have HL0 := Lib.hid hl0
  have hstart : ∀ w1, Sc w1 p l (k + 1) → (w.alloc (.cells #[.int .u8 0, .int .u64 0, .int .u64 0, .slice none 0 0] 25)).grownBy w1 (some p) → GSt w p l w1.heap.size none [] (k + 1) (.int .u8 i.op.toNat) (.int .u64 0) (.int .u64 0) (.slice none 0 0) (w1.alloc (.cells #[.int .u8 i.op.toNat, .int .u64 0, .int .u64 0, .slice none 0 0] 25)) := fun w1 hs1 hg1 => by
    have hz := hg1.size
    rw [size_box] at hz
    exact ⟨(HWM.out.grown hg1 (by simp only [ne_eq, Option.some.injEq]; omega)).alloc _, Whole.made _ _ _, hs1.alloc _, gb_alloc (gb_trans (gb_alloc (gb_refl w _) _) hg1) _, hlt, by omega, (HZ.out.2.self hg1).below (below_box w1 _) (by omega), (fun j v hv => by simp [cells32] at hv), (fun a e => by cases e), .inl ⟨rfl, rfl⟩⟩
  have HST := Lib.hid hstart
  clear hs hT hr hc0 hz0 hinf hm hp1 hd hstart hl0
  by_cases m0 : m = 0
  · subst m0
    have himm : immB 0 i = [] := by unfold immB; rw [if_pos rfl]
    rw [himm] at HPL hd1
    have hl : i.l = [] := List.eq_nil_of_length_eq_zero (by omega)
    have hb : i.b = 0 := by omega
    have HB := Lib.hid hb
    have HL := Lib.hid hl
    have HA := Lib.hid (hz2 (by omega))
    clear hd1 himm hb8 hl3 hb hl
    go_enter Tryd.func70, Tryd.ntmps70
    go_wp2_with (first
      | (go_at_call 112; go_must ((with_reducible refine HOP.out.mono ?_); rintro e w1 ⟨rfl, hs, hg⟩; have HG1 := Lib.hid (HST.out w1 hs hg); have hh := HG1.out.h2; have n1 : ¬ w1.heap.size = w.heap.size := (by omega); have n2 : ¬ w.heap.size = w1.heap.size := (by omega); clear hs hg hh))
      | (go_at_call 66; go_must ((with_reducible refine (HI.out _ HG1.out.tb.tabs).mono ?_); rintro e w2 ⟨rfl, hb⟩; unfold infV; have HG2 := Lib.hid (HG1.out.below hb); have c0 := HG2.out.box.cell 0; have c1 := HG2.out.box.cell 1; have c2 := HG2.out.box.cell 2; have c3 := HG2.out.box.cell 3; have f1 := HG2.out.box.frozen 1; have f2 := HG2.out.box.frozen 2; have f3 := HG2.out.box.frozen 3; have r0 := HG2.out.res.cell 0; have r1 := HG2.out.res.cell 1; have r2 := HG2.out.res.cell 2; have r3 := HG2.out.res.cell 3; have z0 := HG2.out.res.frozen 0; have z1 := HG2.out.res.frozen 1; have z2 := HG2.out.res.frozen 2; have z3 := HG2.out.res.frozen 3; simp only [List.getElem?_toArray, List.getElem?_cons_zero, List.getElem?_cons_succ] at c0 c1 c2 c3 r0 r1 r2 r3; clear hb)))
    obtain ⟨q, hf⟩ := GSt.fin (show GSt w p l w1.heap.size none i.l _ _ _ _ _ _ from by rw [HL.out]; exact HG2.out) (.int .u8 i.op.toNat) (.int .u64 0) (.int .u64 0) (.slice none 0 0) _ rfl
    have q0 := q.cell 0
    have q1 := q.cell 1
    have q2 := q.cell 2
    have q3 := q.cell 3
    simp only [List.getElem?_toArray, List.getElem?_cons_zero, List.getElem?_cons_succ] at q0 q1 q2 q3
    exact bodyPost_ret (v := .agg #[.int .u8 i.op.toNat, .int .u64 0, .int .u64 0, .slice none 0 0]) (by simp [results, Tryd.results70, go_sem, q0, q1, q2, q3]) rfl (gets_end (show GSt w p l w1.heap.size none i.l _ _ _ _ _ _ from by rw [HL.out]; exact HG2.out) hf (ins_eq HB.out HA.out HL.out rfl) (by rw [HPL.out]; rfl))
  have d0 : ((m : Int) == 0) = false := by simp; omega
  by_cases m1 : m = 1
  · subst m1
    have himm : immB 1 i = [UInt8.ofNat i.a.toNat] := by unfold immB; rw [if_neg (by omega), if_pos rfl]
    rw [himm] at HPL hd1
    have hl : i.l = [] := List.eq_nil_of_length_eq_zero (by omega)
    have hb : i.b = 0 := by omega
    have HB := Lib.hid hb
    have HL := Lib.hid hl
    obtain ⟨ha, hab⟩ := hz1 rfl
    have hx := u8_of a0 ha
    have HX := Lib.hid (fun W (h : Sc W p l (k + 1)) => by have := getBlock_ok h hd1 (by rw [hx]; exact hab); rw [hx] at this; exact this)
    clear hd1 hx himm hb8 hl3 hb hl
    go_enter Tryd.func70, Tryd.ntmps70
    go_wp2_with (first
      | (go_at_call 112; go_must ((with_reducible refine HOP.out.mono ?_); rintro e w1 ⟨rfl, hs, hg⟩; have HG1 := Lib.hid (HST.out w1 hs hg); have hh := HG1.out.h2; have n1 : ¬ w1.heap.size = w.heap.size := (by omega); have n2 : ¬ w.heap.size = w1.heap.size := (by omega); clear hs hg hh))
      | (go_at_call 66; go_must ((with_reducible refine (HI.out _ HG1.out.tb.tabs).mono ?_); rintro e w2 ⟨rfl, hb⟩; unfold infV; have HG2 := Lib.hid (HG1.out.below hb); have c0 := HG2.out.box.cell 0; have c1 := HG2.out.box.cell 1; have c2 := HG2.out.box.cell 2; have c3 := HG2.out.box.cell 3; have f1 := HG2.out.box.frozen 1; have f2 := HG2.out.box.frozen 2; have f3 := HG2.out.box.frozen 3; have r0 := HG2.out.res.cell 0; have r1 := HG2.out.res.cell 1; have r2 := HG2.out.res.cell 2; have r3 := HG2.out.res.cell 3; have z0 := HG2.out.res.frozen 0; have z1 := HG2.out.res.frozen 1; have z2 := HG2.out.res.frozen 2; have z3 := HG2.out.res.frozen 3; simp only [List.getElem?_toArray, List.getElem?_cons_zero, List.getElem?_cons_succ] at c0 c1 c2 c3 r0 r1 r2 r3; clear hb))
      | (go_at_call 113; go_must ((with_reducible refine (HX.out _ HG2.out.sc).mono ?_); rintro e w3 ⟨rfl, hs, hg⟩; clear c0 c1 c2 c3 f1 f2 f3 r0 r1 r2 r3 z0 z1 z2 z3; have HG3 := Lib.hid (HG2.out.call hs hg); have c0 := HG3.out.box.cell 0; have c1 := HG3.out.box.cell 1; have c2 := HG3.out.box.cell 2; have c3 := HG3.out.box.cell 3; have f1 := HG3.out.box.frozen 1; have f2 := HG3.out.box.frozen 2; have f3 := HG3.out.box.frozen 3; have r0 := HG3.out.res.cell 0; have r1 := HG3.out.res.cell 1; have r2 := HG3.out.res.cell 2; have r3 := HG3.out.res.cell 3; have z0 := HG3.out.res.frozen 0; have z1 := HG3.out.res.frozen 1; have z2 := HG3.out.res.frozen 2; have z3 := HG3.out.res.frozen 3; simp only [List.getElem?_toArray, List.getElem?_cons_zero, List.getElem?_cons_succ] at c0 c1 c2 c3 r0 r1 r2 r3; clear hs hg)))
    obtain ⟨q, hf⟩ := GSt.fin (show GSt w p l w1.heap.size none i.l _ _ _ _ _ _ from by rw [HL.out]; exact HG3.out.put 1 (.int .u64 i.a) rfl) (.int .u8 i.op.toNat) (.int .u64 i.a) (.int .u64 0) (.slice none 0 0) _ rfl
    have q0 := q.cell 0
    have q1 := q.cell 1
    have q2 := q.cell 2
    have q3 := q.cell 3
    simp only [List.getElem?_toArray, List.getElem?_cons_zero, List.getElem?_cons_succ] at q0 q1 q2 q3
    exact bodyPost_ret (v := .agg #[.int .u8 i.op.toNat, .int .u64 i.a, .int .u64 0, .slice none 0 0]) (by simp [results, Tryd.results70, go_sem, q0, q1, q2, q3]) rfl (gets_end (show GSt w p l w1.heap.size none i.l _ _ _ _ _ _ from by rw [HL.out]; exact HG3.out.put 1 (.int .u64 i.a) rfl) hf (ins_eq HB.out rfl HL.out rfl) (by rw [HPL.out]; rfl))
  have d1 : ((m : Int) == 1) = false := by simp; omega
  by_cases m3 : m = 3
  · subst m3
    have himm : immB 3 i = labL i.l ++ lebL i.a := by unfold immB; rw [if_neg (by omega), if_neg (by omega), if_pos rfl]
    rw [himm] at HPL hd1
    have hb : i.b = 0 := by omega
    have HB := Lib.hid hb
    obtain ⟨ha, _⟩ := hz3 (by omega)
    rw [List.append_assoc] at hd1
    have hd2 := drop_past hd1
    have HX := Lib.hid (fun W (h : Sc W p l (k + 1)) => getLabels_ok h hd1 h10 HL0.out)
    have HY := Lib.hid (fun W (h : Sc W p l (k + 1 + (labL i.l).length)) => getNumber_ok h hd2 a0 ha)
    clear hd1 hd2 himm hb8 hl3 hb
    go_enter Tryd.func70, Tryd.ntmps70
    go_wp2_with (first
      | (go_at_call 112; go_must ((with_reducible refine HOP.out.mono ?_); rintro e w1 ⟨rfl, hs, hg⟩; have HG1 := Lib.hid (HST.out w1 hs hg); have hh := HG1.out.h2; have n1 : ¬ w1.heap.size = w.heap.size := (by omega); have n2 : ¬ w.heap.size = w1.heap.size := (by omega); clear hs hg hh))
      | (go_at_call 66; go_must ((with_reducible refine (HI.out _ HG1.out.tb.tabs).mono ?_); rintro e w2 ⟨rfl, hb⟩; unfold infV; have HG2 := Lib.hid (HG1.out.below hb); have c0 := HG2.out.box.cell 0; have c1 := HG2.out.box.cell 1; have c2 := HG2.out.box.cell 2; have c3 := HG2.out.box.cell 3; have f1 := HG2.out.box.frozen 1; have f2 := HG2.out.box.frozen 2; have f3 := HG2.out.box.frozen 3; have r0 := HG2.out.res.cell 0; have r1 := HG2.out.res.cell 1; have r2 := HG2.out.res.cell 2; have r3 := HG2.out.res.cell 3; have z0 := HG2.out.res.frozen 0; have z1 := HG2.out.res.frozen 1; have z2 := HG2.out.res.frozen 2; have z3 := HG2.out.res.frozen 3; simp only [List.getElem?_toArray, List.getElem?_cons_zero, List.getElem?_cons_succ] at c0 c1 c2 c3 r0 r1 r2 r3; clear hb))
      | (go_at_call 96; go_must ((with_reducible refine (HX.out _ HG2.out.sc).mono ?_); intro e w3 hq; obtain ⟨A, c, rfl, hge, hs, hg, hty⟩ := hq; clear c0 c1 c2 c3 f1 f2 f3 r0 r1 r2 r3 z0 z1 z2 z3; have HG3 := Lib.hid ((HG2.out.call hs hg).labs hty (fun a ha => Nat.lt_of_lt_of_le HG2.out.box.lt (hge a ha))); have c0 := HG3.out.box.cell 0; have c1 := HG3.out.box.cell 1; have c2 := HG3.out.box.cell 2; have c3 := HG3.out.box.cell 3; have f1 := HG3.out.box.frozen 1; have f2 := HG3.out.box.frozen 2; have f3 := HG3.out.box.frozen 3; have r0 := HG3.out.res.cell 0; have r1 := HG3.out.res.cell 1; have r2 := HG3.out.res.cell 2; have r3 := HG3.out.res.cell 3; have z0 := HG3.out.res.frozen 0; have z1 := HG3.out.res.frozen 1; have z2 := HG3.out.res.frozen 2; have z3 := HG3.out.res.frozen 3; simp only [List.getElem?_toArray, List.getElem?_cons_zero, List.getElem?_cons_succ] at c0 c1 c2 c3 r0 r1 r2 r3; clear hs hg hge hty))
      | (go_at_call 114; go_must ((with_reducible refine (HY.out _ (HG3.out.put 3 (.slice A i.l.length c) rfl).sc).mono ?_); rintro e w4 ⟨rfl, hs, hg⟩; clear c0 c1 c2 c3 f1 f2 f3 r0 r1 r2 r3 z0 z1 z2 z3; have HG4 := Lib.hid ((HG3.out.put 3 (.slice A i.l.length c) rfl).call hs hg); have c0 := HG4.out.box.cell 0; have c1 := HG4.out.box.cell 1; have c2 := HG4.out.box.cell 2; have c3 := HG4.out.box.cell 3; have f1 := HG4.out.box.frozen 1; have f2 := HG4.out.box.frozen 2; have f3 := HG4.out.box.frozen 3; have r0 := HG4.out.res.cell 0; have r1 := HG4.out.res.cell 1; have r2 := HG4.out.res.cell 2; have r3 := HG4.out.res.cell 3; have z0 := HG4.out.res.frozen 0; have z1 := HG4.out.res.frozen 1; have z2 := HG4.out.res.frozen 2; have z3 := HG4.out.res.frozen 3; simp only [List.getElem?_toArray, List.getElem?_cons_zero, List.getElem?_cons_succ] at c0 c1 c2 c3 r0 r1 r2 r3; clear hs hg)))
    obtain ⟨q, hf⟩ := GSt.fin (HG4.out.put 1 (.int .u64 i.a) rfl) (.int .u8 i.op.toNat) (.int .u64 i.a) (.int .u64 0) (.slice A i.l.length c) _ rfl
    have q0 := q.cell 0
    have q1 := q.cell 1
    have q2 := q.cell 2
    have q3 := q.cell 3
    simp only [List.getElem?_toArray, List.getElem?_cons_zero, List.getElem?_cons_succ] at q0 q1 q2 q3
    exact bodyPost_ret (v := .agg #[.int .u8 i.op.toNat, .int .u64 i.a, .int .u64 0, .slice A i.l.length c]) (by simp [results, Tryd.results70, go_sem, q0, q1, q2, q3]) rfl (gets_end (HG4.out.put 1 (.int .u64 i.a) rfl) hf (show _ = insV i A c by rw [show insV i A c = Value.agg #[.int .u8 i.op.toNat, .int .u64 i.a, .int .u64 i.b, .slice A i.l.length c] from rfl, HB.out]) (by rw [HPL.out, List.length_append]; omega))
  have d3 : ((m : Int) == 3) = false := by simp; omega
  by_cases m5 : m = 5
  · subst m5
    have himm : immB 5 i = lebL i.a ++ [0] := by unfold immB; rw [if_neg (by omega), if_neg (by omega), if_neg (by omega), if_pos rfl]
    rw [himm] at HPL hd1
    have hl : i.l = [] := List.eq_nil_of_length_eq_zero (by omega)
    have hb : i.b = 0 := by omega
    have HB := Lib.hid hb
    have HL := Lib.hid hl
    obtain ⟨ha, _⟩ := hz3 (by omega)
    rw [List.append_assoc] at hd1
    have hd2 := drop_past hd1
    have HX := Lib.hid (fun W (h : Sc W p l (k + 1)) => getNumber_ok h hd1 a0 ha)
    have HY := Lib.hid (fun W (h : Sc W p l (k + 1 + (lebL i.a).length)) => getNought_ok h hd2)
    clear hd1 hd2 himm hb8 hl3 hb hl
    go_enter Tryd.func70, Tryd.ntmps70
    go_wp2_with (first
      | (go_at_call 112; go_must ((with_reducible refine HOP.out.mono ?_); rintro e w1 ⟨rfl, hs, hg⟩; have HG1 := Lib.hid (HST.out w1 hs hg); have hh := HG1.out.h2; have n1 : ¬ w1.heap.size = w.heap.size := (by omega); have n2 : ¬ w.heap.size = w1.heap.size := (by omega); clear hs hg hh))
      | (go_at_call 66; go_must ((with_reducible refine (HI.out _ HG1.out.tb.tabs).mono ?_); rintro e w2 ⟨rfl, hb⟩; unfold infV; have HG2 := Lib.hid (HG1.out.below hb); have c0 := HG2.out.box.cell 0; have c1 := HG2.out.box.cell 1; have c2 := HG2.out.box.cell 2; have c3 := HG2.out.box.cell 3; have f1 := HG2.out.box.frozen 1; have f2 := HG2.out.box.frozen 2; have f3 := HG2.out.box.frozen 3; have r0 := HG2.out.res.cell 0; have r1 := HG2.out.res.cell 1; have r2 := HG2.out.res.cell 2; have r3 := HG2.out.res.cell 3; have z0 := HG2.out.res.frozen 0; have z1 := HG2.out.res.frozen 1; have z2 := HG2.out.res.frozen 2; have z3 := HG2.out.res.frozen 3; simp only [List.getElem?_toArray, List.getElem?_cons_zero, List.getElem?_cons_succ] at c0 c1 c2 c3 r0 r1 r2 r3; clear hb))
      | (go_at_call 114; go_must ((with_reducible refine (HX.out _ HG2.out.sc).mono ?_); rintro e w3 ⟨rfl, hs, hg⟩; clear c0 c1 c2 c3 f1 f2 f3 r0 r1 r2 r3 z0 z1 z2 z3; have HG3 := Lib.hid (HG2.out.call hs hg); have c0 := HG3.out.box.cell 0; have c1 := HG3.out.box.cell 1; have c2 := HG3.out.box.cell 2; have c3 := HG3.out.box.cell 3; have f1 := HG3.out.box.frozen 1; have f2 := HG3.out.box.frozen 2; have f3 := HG3.out.box.frozen 3; have r0 := HG3.out.res.cell 0; have r1 := HG3.out.res.cell 1; have r2 := HG3.out.res.cell 2; have r3 := HG3.out.res.cell 3; have z0 := HG3.out.res.frozen 0; have z1 := HG3.out.res.frozen 1; have z2 := HG3.out.res.frozen 2; have z3 := HG3.out.res.frozen 3; simp only [List.getElem?_toArray, List.getElem?_cons_zero, List.getElem?_cons_succ] at c0 c1 c2 c3 r0 r1 r2 r3; clear hs hg))
      | (go_at_call 115; go_must ((with_reducible refine (HY.out _ (HG3.out.put 1 (.int .u64 i.a) rfl).sc).mono ?_); rintro e w4 ⟨rfl, hs, hg⟩; clear c0 c1 c2 c3 f1 f2 f3 r0 r1 r2 r3 z0 z1 z2 z3; have HG4 := Lib.hid ((HG3.out.put 1 (.int .u64 i.a) rfl).call hs hg); have c0 := HG4.out.box.cell 0; have c1 := HG4.out.box.cell 1; have c2 := HG4.out.box.cell 2; have c3 := HG4.out.box.cell 3; have f1 := HG4.out.box.frozen 1; have f2 := HG4.out.box.frozen 2; have f3 := HG4.out.box.frozen 3; have r0 := HG4.out.res.cell 0; have r1 := HG4.out.res.cell 1; have r2 := HG4.out.res.cell 2; have r3 := HG4.out.res.cell 3; have z0 := HG4.out.res.frozen 0; have z1 := HG4.out.res.frozen 1; have z2 := HG4.out.res.frozen 2; have z3 := HG4.out.res.frozen 3; simp only [List.getElem?_toArray, List.getElem?_cons_zero, List.getElem?_cons_succ] at c0 c1 c2 c3 r0 r1 r2 r3; clear hs hg)))
    obtain ⟨q, hf⟩ := GSt.fin (show GSt w p l w1.heap.size none i.l _ _ _ _ _ _ from by rw [HL.out]; exact HG4.out) (.int .u8 i.op.toNat) (.int .u64 i.a) (.int .u64 0) (.slice none 0 0) _ rfl
    have q0 := q.cell 0
    have q1 := q.cell 1
    have q2 := q.cell 2
    have q3 := q.cell 3
    simp only [List.getElem?_toArray, List.getElem?_cons_zero, List.getElem?_cons_succ] at q0 q1 q2 q3
    exact bodyPost_ret (v := .agg #[.int .u8 i.op.toNat, .int .u64 i.a, .int .u64 0, .slice none 0 0]) (by simp [results, Tryd.results70, go_sem, q0, q1, q2, q3]) rfl (gets_end (show GSt w p l w1.heap.size none i.l _ _ _ _ _ _ from by rw [HL.out]; exact HG4.out) hf (ins_eq HB.out rfl HL.out rfl) (by rw [HPL.out, List.length_append, List.length_singleton]; omega))
  have d5 : ((m : Int) == 5) = false := by simp; omega
  by_cases m8 : m = 8
  · subst m8
    have himm : immB 8 i = lebL i.a ++ lebL i.b := by unfold immB; rw [if_neg (by omega), if_neg (by omega), if_neg (by omega), if_neg (by omega), if_pos rfl]
    rw [himm] at HPL hd1
    have hl : i.l = [] := List.eq_nil_of_length_eq_zero (by omega)
    have HL := Lib.hid hl
    obtain ⟨ha, hbb⟩ := hz3 (by omega)
    rw [List.append_assoc] at hd1
    have hd2 := drop_past hd1
    have HX := Lib.hid (fun W (h : Sc W p l (k + 1)) => getNumber_ok h hd1 a0 ha)
    have HY := Lib.hid (fun W (h : Sc W p l (k + 1 + (lebL i.a).length)) => getNumber_ok h hd2 b0 hbb)
    clear hd1 hd2 himm hb8 hl3 hl
    go_enter Tryd.func70, Tryd.ntmps70
    go_wp2_with (first
      | (go_at_call 112; go_must ((with_reducible refine HOP.out.mono ?_); rintro e w1 ⟨rfl, hs, hg⟩; have HG1 := Lib.hid (HST.out w1 hs hg); have hh := HG1.out.h2; have n1 : ¬ w1.heap.size = w.heap.size := (by omega); have n2 : ¬ w.heap.size = w1.heap.size := (by omega); clear hs hg hh))
      | (go_at_call 66; go_must ((with_reducible refine (HI.out _ HG1.out.tb.tabs).mono ?_); rintro e w2 ⟨rfl, hb⟩; unfold infV; have HG2 := Lib.hid (HG1.out.below hb); have c0 := HG2.out.box.cell 0; have c1 := HG2.out.box.cell 1; have c2 := HG2.out.box.cell 2; have c3 := HG2.out.box.cell 3; have f1 := HG2.out.box.frozen 1; have f2 := HG2.out.box.frozen 2; have f3 := HG2.out.box.frozen 3; have r0 := HG2.out.res.cell 0; have r1 := HG2.out.res.cell 1; have r2 := HG2.out.res.cell 2; have r3 := HG2.out.res.cell 3; have z0 := HG2.out.res.frozen 0; have z1 := HG2.out.res.frozen 1; have z2 := HG2.out.res.frozen 2; have z3 := HG2.out.res.frozen 3; simp only [List.getElem?_toArray, List.getElem?_cons_zero, List.getElem?_cons_succ] at c0 c1 c2 c3 r0 r1 r2 r3; clear hb))
      | (have tok := HG3; go_at_call 114; go_must ((with_reducible refine (HY.out _ (HG3.out.put 1 (.int .u64 i.a) rfl).sc).mono ?_); rintro e w4 ⟨rfl, hs, hg⟩; clear c0 c1 c2 c3 f1 f2 f3 r0 r1 r2 r3 z0 z1 z2 z3; have HG4 := Lib.hid ((HG3.out.put 1 (.int .u64 i.a) rfl).call hs hg); have c0 := HG4.out.box.cell 0; have c1 := HG4.out.box.cell 1; have c2 := HG4.out.box.cell 2; have c3 := HG4.out.box.cell 3; have f1 := HG4.out.box.frozen 1; have f2 := HG4.out.box.frozen 2; have f3 := HG4.out.box.frozen 3; have r0 := HG4.out.res.cell 0; have r1 := HG4.out.res.cell 1; have r2 := HG4.out.res.cell 2; have r3 := HG4.out.res.cell 3; have z0 := HG4.out.res.frozen 0; have z1 := HG4.out.res.frozen 1; have z2 := HG4.out.res.frozen 2; have z3 := HG4.out.res.frozen 3; simp only [List.getElem?_toArray, List.getElem?_cons_zero, List.getElem?_cons_succ] at c0 c1 c2 c3 r0 r1 r2 r3; clear hs hg))
      | (go_at_call 114; go_must ((with_reducible refine (HX.out _ HG2.out.sc).mono ?_); rintro e w3 ⟨rfl, hs, hg⟩; clear c0 c1 c2 c3 f1 f2 f3 r0 r1 r2 r3 z0 z1 z2 z3; have HG3 := Lib.hid (HG2.out.call hs hg); have c0 := HG3.out.box.cell 0; have c1 := HG3.out.box.cell 1; have c2 := HG3.out.box.cell 2; have c3 := HG3.out.box.cell 3; have f1 := HG3.out.box.frozen 1; have f2 := HG3.out.box.frozen 2; have f3 := HG3.out.box.frozen 3; have r0 := HG3.out.res.cell 0; have r1 := HG3.out.res.cell 1; have r2 := HG3.out.res.cell 2; have r3 := HG3.out.res.cell 3; have z0 := HG3.out.res.frozen 0; have z1 := HG3.out.res.frozen 1; have z2 := HG3.out.res.frozen 2; have z3 := HG3.out.res.frozen 3; simp only [List.getElem?_toArray, List.getElem?_cons_zero, List.getElem?_cons_succ] at c0 c1 c2 c3 r0 r1 r2 r3; clear hs hg)))
    obtain ⟨q, hf⟩ := GSt.fin (show GSt w p l w1.heap.size none i.l _ _ _ _ _ _ from by rw [HL.out]; exact HG4.out.put 2 (.int .u64 i.b) rfl) (.int .u8 i.op.toNat) (.int .u64 i.a) (.int .u64 i.b) (.slice none 0 0) _ rfl
    have q0 := q.cell 0
    have q1 := q.cell 1
    have q2 := q.cell 2
    have q3 := q.cell 3
    simp only [List.getElem?_toArray, List.getElem?_cons_zero, List.getElem?_cons_succ] at q0 q1 q2 q3
    exact bodyPost_ret (v := .agg #[.int .u8 i.op.toNat, .int .u64 i.a, .int .u64 i.b, .slice none 0 0]) (by simp [results, Tryd.results70, go_sem, q0, q1, q2, q3]) rfl (gets_end (show GSt w p l w1.heap.size none i.l _ _ _ _ _ _ from by rw [HL.out]; exact HG4.out.put 2 (.int .u64 i.b) rfl) hf (ins_eq rfl rfl HL.out rfl) (by rw [HPL.out, List.length_append]; omega))
  have d8 : ((m : Int) == 8) = false := by simp; omega
  by_cases m9 : m = 9
  · subst m9
    have himm : immB 9 i = [0] := by unfold immB; rw [if_neg (by omega), if_neg (by omega), if_neg (by omega), if_neg (by omega), if_neg (by omega), if_pos rfl]
    rw [himm] at HPL hd1
    have hl : i.l = [] := List.eq_nil_of_length_eq_zero (by omega)
    have hb : i.b = 0 := by omega
    have HB := Lib.hid hb
    have HL := Lib.hid hl
    have HA := Lib.hid (hz2 (by omega))
    have HX := Lib.hid (fun W (h : Sc W p l (k + 1)) => getNought_ok h hd1)
    clear hd1 himm hb8 hl3 hb hl
    go_enter Tryd.func70, Tryd.ntmps70
    go_wp2_with (first
      | (go_at_call 112; go_must ((with_reducible refine HOP.out.mono ?_); rintro e w1 ⟨rfl, hs, hg⟩; have HG1 := Lib.hid (HST.out w1 hs hg); have hh := HG1.out.h2; have n1 : ¬ w1.heap.size = w.heap.size := (by omega); have n2 : ¬ w.heap.size = w1.heap.size := (by omega); clear hs hg hh))
      | (go_at_call 66; go_must ((with_reducible refine (HI.out _ HG1.out.tb.tabs).mono ?_); rintro e w2 ⟨rfl, hb⟩; unfold infV; have HG2 := Lib.hid (HG1.out.below hb); have c0 := HG2.out.box.cell 0; have c1 := HG2.out.box.cell 1; have c2 := HG2.out.box.cell 2; have c3 := HG2.out.box.cell 3; have f1 := HG2.out.box.frozen 1; have f2 := HG2.out.box.frozen 2; have f3 := HG2.out.box.frozen 3; have r0 := HG2.out.res.cell 0; have r1 := HG2.out.res.cell 1; have r2 := HG2.out.res.cell 2; have r3 := HG2.out.res.cell 3; have z0 := HG2.out.res.frozen 0; have z1 := HG2.out.res.frozen 1; have z2 := HG2.out.res.frozen 2; have z3 := HG2.out.res.frozen 3; simp only [List.getElem?_toArray, List.getElem?_cons_zero, List.getElem?_cons_succ] at c0 c1 c2 c3 r0 r1 r2 r3; clear hb))
      | (go_at_call 115; go_must ((with_reducible refine (HX.out _ HG2.out.sc).mono ?_); rintro e w3 ⟨rfl, hs, hg⟩; clear c0 c1 c2 c3 f1 f2 f3 r0 r1 r2 r3 z0 z1 z2 z3; have HG3 := Lib.hid (HG2.out.call hs hg); have c0 := HG3.out.box.cell 0; have c1 := HG3.out.box.cell 1; have c2 := HG3.out.box.cell 2; have c3 := HG3.out.box.cell 3; have f1 := HG3.out.box.frozen 1; have f2 := HG3.out.box.frozen 2; have f3 := HG3.out.box.frozen 3; have r0 := HG3.out.res.cell 0; have r1 := HG3.out.res.cell 1; have r2 := HG3.out.res.cell 2; have r3 := HG3.out.res.cell 3; have z0 := HG3.out.res.frozen 0; have z1 := HG3.out.res.frozen 1; have z2 := HG3.out.res.frozen 2; have z3 := HG3.out.res.frozen 3; simp only [List.getElem?_toArray, List.getElem?_cons_zero, List.getElem?_cons_succ] at c0 c1 c2 c3 r0 r1 r2 r3; clear hs hg)))
    obtain ⟨q, hf⟩ := GSt.fin (show GSt w p l w1.heap.size none i.l _ _ _ _ _ _ from by rw [HL.out]; exact HG3.out) (.int .u8 i.op.toNat) (.int .u64 0) (.int .u64 0) (.slice none 0 0) _ rfl
    have q0 := q.cell 0
    have q1 := q.cell 1
    have q2 := q.cell 2
    have q3 := q.cell 3
    simp only [List.getElem?_toArray, List.getElem?_cons_zero, List.getElem?_cons_succ] at q0 q1 q2 q3
    exact bodyPost_ret (v := .agg #[.int .u8 i.op.toNat, .int .u64 0, .int .u64 0, .slice none 0 0]) (by simp [results, Tryd.results70, go_sem, q0, q1, q2, q3]) rfl (gets_end (show GSt w p l w1.heap.size none i.l _ _ _ _ _ _ from by rw [HL.out]; exact HG3.out) hf (ins_eq HB.out HA.out HL.out rfl) (by rw [HPL.out]; rfl))
  have d9 : ((m : Int) == 9) = false := by simp; omega
  by_cases m10 : m = 10
  · subst m10
    have himm : immB 10 i = sebL (s32 i.a) := by unfold immB; rw [if_neg (by omega), if_neg (by omega), if_neg (by omega), if_neg (by omega), if_neg (by omega), if_neg (by omega), if_pos rfl]
    rw [himm] at HPL hd1
    have hl : i.l = [] := List.eq_nil_of_length_eq_zero (by omega)
    have hb : i.b = 0 := by omega
    have HB := Lib.hid hb
    have HL := Lib.hid hl
    obtain ⟨ha, _⟩ := hz3 (by omega)
    have HX := Lib.hid (fun W (h : Sc W p l (k + 1)) => show Calls Tryd.prog 116 #[.pointer (some ⟨p, 0, none⟩), .int .i64 32] W (Did encS64 p l W (.ok (s32 i.a) (k + 1 + (sebL (s32 i.a)).length))) from int_scan (n := 32) h hd1 (show -2147483648 ≤ s32 i.a by unfold s32; omega) (show s32 i.a < 2147483648 by unfold s32; omega) (by omega) (by omega))
    have hw : IntKind.u32.wrap (s32 i.a) = i.a := by unfold s32; simp [IntKind.wrap, IntKind.bits, IntKind.signed]; omega
    have hw2 : IntKind.u64.wrap i.a = i.a := by simp [IntKind.wrap, IntKind.bits, IntKind.signed]; omega
    generalize s32 i.a = sx at *
    clear hd1 hb8 hl3 hb hl himm
    go_enter Tryd.func70, Tryd.ntmps70
    go_wp2_with (first
      | (go_at_call 112; go_must ((with_reducible refine HOP.out.mono ?_); rintro e w1 ⟨rfl, hs, hg⟩; have HG1 := Lib.hid (HST.out w1 hs hg); have hh := HG1.out.h2; have n1 : ¬ w1.heap.size = w.heap.size := (by omega); have n2 : ¬ w.heap.size = w1.heap.size := (by omega); clear hs hg hh))
      | (go_at_call 66; go_must ((with_reducible refine (HI.out _ HG1.out.tb.tabs).mono ?_); rintro e w2 ⟨rfl, hb⟩; unfold infV; have HG2 := Lib.hid (HG1.out.below hb); have c0 := HG2.out.box.cell 0; have c1 := HG2.out.box.cell 1; have c2 := HG2.out.box.cell 2; have c3 := HG2.out.box.cell 3; have f1 := HG2.out.box.frozen 1; have f2 := HG2.out.box.frozen 2; have f3 := HG2.out.box.frozen 3; have r0 := HG2.out.res.cell 0; have r1 := HG2.out.res.cell 1; have r2 := HG2.out.res.cell 2; have r3 := HG2.out.res.cell 3; have z0 := HG2.out.res.frozen 0; have z1 := HG2.out.res.frozen 1; have z2 := HG2.out.res.frozen 2; have z3 := HG2.out.res.frozen 3; simp only [List.getElem?_toArray, List.getElem?_cons_zero, List.getElem?_cons_succ] at c0 c1 c2 c3 r0 r1 r2 r3; clear hb))
      | (go_at_call 116; go_must ((with_reducible refine (HX.out _ HG2.out.sc).mono ?_); rintro e w3 ⟨rfl, hs, hg⟩; clear c0 c1 c2 c3 f1 f2 f3 r0 r1 r2 r3 z0 z1 z2 z3; have HG3 := Lib.hid (HG2.out.call hs hg); have c0 := HG3.out.box.cell 0; have c1 := HG3.out.box.cell 1; have c2 := HG3.out.box.cell 2; have c3 := HG3.out.box.cell 3; have f1 := HG3.out.box.frozen 1; have f2 := HG3.out.box.frozen 2; have f3 := HG3.out.box.frozen 3; have r0 := HG3.out.res.cell 0; have r1 := HG3.out.res.cell 1; have r2 := HG3.out.res.cell 2; have r3 := HG3.out.res.cell 3; have z0 := HG3.out.res.frozen 0; have z1 := HG3.out.res.frozen 1; have z2 := HG3.out.res.frozen 2; have z3 := HG3.out.res.frozen 3; simp only [List.getElem?_toArray, List.getElem?_cons_zero, List.getElem?_cons_succ] at c0 c1 c2 c3 r0 r1 r2 r3; clear hs hg)))
    obtain ⟨q, hf⟩ := GSt.fin (show GSt w p l w1.heap.size none i.l _ _ _ _ _ _ from by rw [HL.out]; exact HG3.out.put 1 (.int .u64 i.a) rfl) (.int .u8 i.op.toNat) (.int .u64 i.a) (.int .u64 0) (.slice none 0 0) _ rfl
    have q0 := q.cell 0
    have q1 := q.cell 1
    have q2 := q.cell 2
    have q3 := q.cell 3
    simp only [List.getElem?_toArray, List.getElem?_cons_zero, List.getElem?_cons_succ] at q0 q1 q2 q3
    exact bodyPost_ret (v := .agg #[.int .u8 i.op.toNat, .int .u64 i.a, .int .u64 0, .slice none 0 0]) (by simp [results, Tryd.results70, go_sem, q0, q1, q2, q3]) rfl (gets_end (show GSt w p l w1.heap.size none i.l _ _ _ _ _ _ from by rw [HL.out]; exact HG3.out.put 1 (.int .u64 i.a) rfl) hf (ins_eq HB.out rfl HL.out rfl) (by rw [HPL.out]; omega))
  have d10 : ((m : Int) == 10) = false := by simp; omega
  by_cases m11 : m = 11
  · subst m11
    have himm : immB 11 i = sebL (s64 i.a) := by unfold immB; rw [if_neg (by omega), if_neg (by omega), if_neg (by omega), if_neg (by omega), if_neg (by omega), if_neg (by omega), if_neg (by omega), if_pos rfl]
    rw [himm] at HPL hd1
    have hl : i.l = [] := List.eq_nil_of_length_eq_zero (by omega)
    have hb : i.b = 0 := by omega
    have HB := Lib.hid hb
    have HL := Lib.hid hl
    have HX := Lib.hid (fun W (h : Sc W p l (k + 1)) => show Calls Tryd.prog 116 #[.pointer (some ⟨p, 0, none⟩), .int .i64 64] W (Did encS64 p l W (.ok (s64 i.a) (k + 1 + (sebL (s64 i.a)).length))) from int_scan (n := 64) h hd1 (show -9223372036854775808 ≤ s64 i.a by unfold s64; omega) (show s64 i.a < 9223372036854775808 by unfold s64; omega) (by omega) (by omega))
    have hw : IntKind.u64.wrap (s64 i.a) = i.a := by unfold s64; simp [IntKind.wrap, IntKind.bits, IntKind.signed]; omega
    generalize s64 i.a = sx at *
    clear hd1 hb8 hl3 hb hl himm
    go_enter Tryd.func70, Tryd.ntmps70
    go_wp2_with (first
      | (go_at_call 112; go_must ((with_reducible refine HOP.out.mono ?_); rintro e w1 ⟨rfl, hs, hg⟩; have HG1 := Lib.hid (HST.out w1 hs hg); have hh := HG1.out.h2; have n1 : ¬ w1.heap.size = w.heap.size := (by omega); have n2 : ¬ w.heap.size = w1.heap.size := (by omega); clear hs hg hh))
      | (go_at_call 66; go_must ((with_reducible refine (HI.out _ HG1.out.tb.tabs).mono ?_); rintro e w2 ⟨rfl, hb⟩; unfold infV; have HG2 := Lib.hid (HG1.out.below hb); have c0 := HG2.out.box.cell 0; have c1 := HG2.out.box.cell 1; have c2 := HG2.out.box.cell 2; have c3 := HG2.out.box.cell 3; have f1 := HG2.out.box.frozen 1; have f2 := HG2.out.box.frozen 2; have f3 := HG2.out.box.frozen 3; have r0 := HG2.out.res.cell 0; have r1 := HG2.out.res.cell 1; have r2 := HG2.out.res.cell 2; have r3 := HG2.out.res.cell 3; have z0 := HG2.out.res.frozen 0; have z1 := HG2.out.res.frozen 1; have z2 := HG2.out.res.frozen 2; have z3 := HG2.out.res.frozen 3; simp only [List.getElem?_toArray, List.getElem?_cons_zero, List.getElem?_cons_succ] at c0 c1 c2 c3 r0 r1 r2 r3; clear hb))
      | (go_at_call 116; go_must ((with_reducible refine (HX.out _ HG2.out.sc).mono ?_); rintro e w3 ⟨rfl, hs, hg⟩; clear c0 c1 c2 c3 f1 f2 f3 r0 r1 r2 r3 z0 z1 z2 z3; have HG3 := Lib.hid (HG2.out.call hs hg); have c0 := HG3.out.box.cell 0; have c1 := HG3.out.box.cell 1; have c2 := HG3.out.box.cell 2; have c3 := HG3.out.box.cell 3; have f1 := HG3.out.box.frozen 1; have f2 := HG3.out.box.frozen 2; have f3 := HG3.out.box.frozen 3; have r0 := HG3.out.res.cell 0; have r1 := HG3.out.res.cell 1; have r2 := HG3.out.res.cell 2; have r3 := HG3.out.res.cell 3; have z0 := HG3.out.res.frozen 0; have z1 := HG3.out.res.frozen 1; have z2 := HG3.out.res.frozen 2; have z3 := HG3.out.res.frozen 3; simp only [List.getElem?_toArray, List.getElem?_cons_zero, List.getElem?_cons_succ] at c0 c1 c2 c3 r0 r1 r2 r3; clear hs hg)))
    obtain ⟨q, hf⟩ := GSt.fin (show GSt w p l w1.heap.size none i.l _ _ _ _ _ _ from by rw [HL.out]; exact HG3.out.put 1 (.int .u64 i.a) rfl) (.int .u8 i.op.toNat) (.int .u64 i.a) (.int .u64 0) (.slice none 0 0) _ rfl
    have q0 := q.cell 0
    have q1 := q.cell 1
    have q2 := q.cell 2
    have q3 := q.cell 3
    simp only [List.getElem?_toArray, List.getElem?_cons_zero, List.getElem?_cons_succ] at q0 q1 q2 q3
    exact bodyPost_ret (v := .agg #[.int .u8 i.op.toNat, .int .u64 i.a, .int .u64 0, .slice none 0 0]) (by simp [results, Tryd.results70, go_sem, q0, q1, q2, q3]) rfl (gets_end (show GSt w p l w1.heap.size none i.l _ _ _ _ _ _ from by rw [HL.out]; exact HG3.out.put 1 (.int .u64 i.a) rfl) hf (ins_eq HB.out rfl HL.out rfl) (by rw [HPL.out]; omega))
  have d11 : ((m : Int) == 11) = false := by simp; omega
  have himm : immB m i = lebL i.a := by unfold immB; rw [if_neg m0, if_neg m1, if_neg m3, if_neg m5, if_neg m8, if_neg m9, if_neg m10, if_neg m11]
  rw [himm] at HPL hd1
  have HL := Lib.hid (show i.l = [] from List.eq_nil_of_length_eq_zero (by omega))
  have HB := Lib.hid (show i.b = 0 by omega)
  obtain ⟨ha, _⟩ := hz3 (by omega)
  have HX := Lib.hid (fun W (h : Sc W p l (k + 1)) => getNumber_ok h hd1 a0 ha)
  clear hd1 himm hb8 hl3
  go_enter Tryd.func70, Tryd.ntmps70
  go_wp2_with (first
    | (go_at_call 112; go_must ((with_reducible refine HOP.out.mono ?_); rintro e w1 ⟨rfl, hs, hg⟩; have HG1 := Lib.hid (HST.out w1 hs hg); have hh := HG1.out.h2; have n1 : ¬ w1.heap.size = w.heap.size := (by omega); have n2 : ¬ w.heap.size = w1.heap.size := (by omega); clear hs hg hh))
    | (go_at_call 66; go_must ((with_reducible refine (HI.out _ HG1.out.tb.tabs).mono ?_); rintro e w2 ⟨rfl, hb⟩; unfold infV; have HG2 := Lib.hid (HG1.out.below hb); have c0 := HG2.out.box.cell 0; have c1 := HG2.out.box.cell 1; have c2 := HG2.out.box.cell 2; have c3 := HG2.out.box.cell 3; have f1 := HG2.out.box.frozen 1; have f2 := HG2.out.box.frozen 2; have f3 := HG2.out.box.frozen 3; have r0 := HG2.out.res.cell 0; have r1 := HG2.out.res.cell 1; have r2 := HG2.out.res.cell 2; have r3 := HG2.out.res.cell 3; have z0 := HG2.out.res.frozen 0; have z1 := HG2.out.res.frozen 1; have z2 := HG2.out.res.frozen 2; have z3 := HG2.out.res.frozen 3; simp only [List.getElem?_toArray, List.getElem?_cons_zero, List.getElem?_cons_succ] at c0 c1 c2 c3 r0 r1 r2 r3; clear hb))
    | (go_at_call 114; go_must ((with_reducible refine (HX.out _ HG2.out.sc).mono ?_); rintro e w3 ⟨rfl, hs, hg⟩; clear c0 c1 c2 c3 f1 f2 f3 r0 r1 r2 r3 z0 z1 z2 z3; have HG3 := Lib.hid (HG2.out.call hs hg); have c0 := HG3.out.box.cell 0; have c1 := HG3.out.box.cell 1; have c2 := HG3.out.box.cell 2; have c3 := HG3.out.box.cell 3; have f1 := HG3.out.box.frozen 1; have f2 := HG3.out.box.frozen 2; have f3 := HG3.out.box.frozen 3; have r0 := HG3.out.res.cell 0; have r1 := HG3.out.res.cell 1; have r2 := HG3.out.res.cell 2; have r3 := HG3.out.res.cell 3; have z0 := HG3.out.res.frozen 0; have z1 := HG3.out.res.frozen 1; have z2 := HG3.out.res.frozen 2; have z3 := HG3.out.res.frozen 3; simp only [List.getElem?_toArray, List.getElem?_cons_zero, List.getElem?_cons_succ] at c0 c1 c2 c3 r0 r1 r2 r3; clear hs hg)))
  obtain ⟨q, hf⟩ := GSt.fin (show GSt w p l w1.heap.size none i.l _ _ _ _ _ _ from by rw [HL.out]; exact HG3.out.put 1 (.int .u64 i.a) rfl) (.int .u8 i.op.toNat) (.int .u64 i.a) (.int .u64 0) (.slice none 0 0) _ rfl
  have q0 := q.cell 0
  have q1 := q.cell 1
  have q2 := q.cell 2
  have q3 := q.cell 3
  simp only [List.getElem?_toArray, List.getElem?_cons_zero, List.getElem?_cons_succ] at q0 q1 q2 q3
  exact bodyPost_ret (v := .agg #[.int .u8 i.op.toNat, .int .u64 i.a, .int .u64 0, .slice none 0 0]) (by simp [results, Tryd.results70, go_sem, q0, q1, q2, q3]) rfl (gets_end (show GSt w p l w1.heap.size none i.l _ _ _ _ _ _ from by rw [HL.out]; exact HG3.out.put 1 (.int .u64 i.a) rfl) hf (ins_eq HB.out rfl HL.out rfl) (by rw [HPL.out]; omega))
end Go.Proofs.YtebgmfjgapmpfaaDoor

/- A block of one, two, four cells, all written. -/
namespace Go.Proofs.YtebgmfjgapmpfaaDoor
open Go.RowKit
set_option linter.unusedVariables false

theorem put1 {w : World} {b : Nat} {t : TypeId} {x0 u0 : Value} (hb : Whole w b t #[x0]) : Whole (w.setCell ⟨b, 0, none⟩ u0) b t #[u0] ∧ w.grownBy (w.setCell ⟨b, 0, none⟩ u0) (some b) := ⟨(hb.put 0 u0), (gb_put (p := ⟨b, 0, none⟩) (gb_refl w _) (.inl rfl) u0)⟩
theorem put2 {w : World} {b : Nat} {t : TypeId} {x0 x1 u0 u1 : Value} (hb : Whole w b t #[x0, x1]) : Whole ((w.setCell ⟨b, 0, none⟩ u0).setCell ⟨b, 1, none⟩ u1) b t #[u0, u1] ∧ w.grownBy ((w.setCell ⟨b, 0, none⟩ u0).setCell ⟨b, 1, none⟩ u1) (some b) := ⟨((hb.put 0 u0).put 1 u1), (gb_put (p := ⟨b, 1, none⟩) (gb_put (p := ⟨b, 0, none⟩) (gb_refl w _) (.inl rfl) u0) (.inl rfl) u1)⟩
theorem put4 {w : World} {b : Nat} {t : TypeId} {x0 x1 x2 x3 u0 u1 u2 u3 : Value} (hb : Whole w b t #[x0, x1, x2, x3]) : Whole ((((w.setCell ⟨b, 0, none⟩ u0).setCell ⟨b, 1, none⟩ u1).setCell ⟨b, 2, none⟩ u2).setCell ⟨b, 3, none⟩ u3) b t #[u0, u1, u2, u3] ∧ w.grownBy ((((w.setCell ⟨b, 0, none⟩ u0).setCell ⟨b, 1, none⟩ u1).setCell ⟨b, 2, none⟩ u2).setCell ⟨b, 3, none⟩ u3) (some b) := ⟨((((hb.put 0 u0).put 1 u1).put 2 u2).put 3 u3), (gb_put (p := ⟨b, 3, none⟩) (gb_put (p := ⟨b, 2, none⟩) (gb_put (p := ⟨b, 1, none⟩) (gb_put (p := ⟨b, 0, none⟩) (gb_refl w _) (.inl rfl) u0) (.inl rfl) u1) (.inl rfl) u2) (.inl rfl) u3)⟩
end Go.Proofs.YtebgmfjgapmpfaaDoor

/- abort.Value of a function that ends well, whatever it hands back: api.Instr. (By gen/genVal.py.) -/
namespace Go.Proofs.YtebgmfjgapmpfaaDoor
open Go.RowKit
set_option linter.unusedVariables false
set_option maxRecDepth 100000

theorem cfVI (cap : Array Value) (w : World) : (callFunc 79 cap).run Tryd.prog w = .ok (.enter 79 cap) w := by kernel_rfl
section
variable {T : (I × Option Addr × Nat) → World → Prop}
/-- Value's own closure: what the step hands back lies in its cell. -/
theorem valClosI {g : FuncId} {cap : Array Value} {b1 b4 q : Nat} {w : World} {z : Array Value} (hz : z.size = 4) (hcf : ∀ w : World, (callFunc g cap).run Tryd.prog w = .ok (.enter g cap) w)
    (h1 : Whole w b1 59 #[.func (.func g) #[] cap]) (h4 : Whole w b4 25 #[.int .u8 0, .int .u64 0, .int .u64 0, .slice none 0 0]) (hb : q < b4) (hT : ∀ x W W', T x W → W.grownBy W' (some b4) → T x W')
    (h : Calls Tryd.prog g cap w fun e w' => ∃ x, e = .returned (insV x.1 x.2.1 x.2.2) ∧ T x w' ∧ w.grownBy w' (some q)) :
    Calls Tryd.prog 79 #[.pointer (some ⟨b1, 0, none⟩), .pointer (some ⟨b4, 0, none⟩)] w fun e w' =>
      e = .returned (.tuple #[]) ∧ ∃ x, T x w' ∧ Whole w' b4 25 #[.int .u8 x.1.op.toNat, .int .u64 x.1.a, .int .u64 x.1.b, .slice x.2.1 x.1.l.length x.2.2] ∧ ∃ w1, w.grownBy w1 (some q) ∧ w1.grownBy w' (some b4) := by
  have hnil : ∀ w : World, (binOp BinOp.neq 59 (.func (.func g) #[] cap) .nilFunc).run Tryd.prog w = .ok (.bool true) w := fun _ => by kernel_rfl
  have c1 := h1.cell 0
  simp only [List.getElem?_toArray, List.getElem?_cons_zero] at c1
  have HH := Lib.hid h
  have H4 := Lib.hid h4
  have HT := Lib.hid hT
  clear h h1 h4 hT
  go_enter Tryd.func79, Tryd.ntmps79
  go_wp2_with fail
  refine HH.out.mono ?_
  rintro e w1 ⟨x, rfl, hs, hg⟩
  have HW := H4.out.grown hg (by simp only [ne_eq, Option.some.injEq]; omega)
  have k0 := HW.cell 0
  have k1 := HW.cell 1
  have k2 := HW.cell 2
  have k3 := HW.cell 3
  have f0 := HW.frozen 0
  have f1 := HW.frozen 1
  have f2 := HW.frozen 2
  have f3 := HW.frozen 3
  simp only [List.getElem?_toArray, List.getElem?_cons_zero, List.getElem?_cons_succ] at k0 k1 k2 k3
  obtain ⟨p1, p2⟩ := put4 (u0 := .int .u8 x.1.op.toNat) (u1 := .int .u64 x.1.a) (u2 := .int .u64 x.1.b) (u3 := .slice x.2.1 x.1.l.length x.2.2) HW
  have F : Hid (T x ((((w1.setCell ⟨b4, 0, none⟩ (.int .u8 x.1.op.toNat)).setCell ⟨b4, 1, none⟩ (.int .u64 x.1.a)).setCell ⟨b4, 2, none⟩ (.int .u64 x.1.b)).setCell ⟨b4, 3, none⟩ (.slice x.2.1 x.1.l.length x.2.2))) := HT.out _ _ _ hs p2
  have P1 := Lib.hid p1
  have P2 := Lib.hid p2
  have HG := Lib.hid hg
  clear p1 p2 hs hg HW hcf
  go_wp2_with fail
  go_end0
  exact ⟨rfl, x, F.out, P1.out, w1, HG.out, P2.out⟩
/-- What Value's closure leaves behind, seen from Value's beginning. -/
structure VSI (T : (I × Option Addr × Nat) → World → Prop) (w : World) (q : Nat) (x : (I × Option Addr × Nat)) (w1 : World) : Prop where
  kept : T x w1
  grown : w.grownBy w1 (some q)
  val : Whole w1 (w.heap.size + 3) 25 #[.int .u8 x.1.op.toNat, .int .u64 x.1.a, .int .u64 x.1.b, .slice x.2.1 x.1.l.length x.2.2]
  r1 : Whole w1 (w.heap.size + 1) 25 #[.int .u8 0, .int .u64 0, .int .u64 0, .slice none 0 0]
  r2 : Whole w1 (w.heap.size + 2) 35 #[.int .i64 0, .int .i64 0]
/-- The world in which Value calls Out. -/
def vWorldI (g : FuncId) (cap : Array Value) (w : World) : World :=
  (((w.alloc (.cells #[.func (.func g) #[] cap] 59)).alloc (.cells #[.int .u8 0, .int .u64 0, .int .u64 0, .slice none 0 0] 25)).alloc (.cells #[.int .i64 0, .int .i64 0] 35)).alloc (.cells #[.int .u8 0, .int .u64 0, .int .u64 0, .slice none 0 0] 25)
theorem vWorld_factsI (g : FuncId) (cap : Array Value) (w : World) : (vWorldI g cap w).heap.size = w.heap.size + 4 ∧ Whole (vWorldI g cap w) w.heap.size 59 #[.func (.func g) #[] cap] ∧
    Whole (vWorldI g cap w) (w.heap.size + 1) 25 #[.int .u8 0, .int .u64 0, .int .u64 0, .slice none 0 0] ∧ Whole (vWorldI g cap w) (w.heap.size + 2) 35 #[.int .i64 0, .int .i64 0] ∧
    Whole (vWorldI g cap w) (w.heap.size + 3) 25 #[.int .u8 0, .int .u64 0, .int .u64 0, .slice none 0 0] ∧ Below w.heap.size w (vWorldI g cap w) := by
  have b1 := Whole.made w 59 #[.func (.func g) #[] cap]
  have b2 := Whole.made (w.alloc (.cells #[.func (.func g) #[] cap] 59)) 25 #[.int .u8 0, .int .u64 0, .int .u64 0, .slice none 0 0]
  have b3 := Whole.made ((w.alloc (.cells #[.func (.func g) #[] cap] 59)).alloc (.cells #[.int .u8 0, .int .u64 0, .int .u64 0, .slice none 0 0] 25)) 35 #[.int .i64 0, .int .i64 0]
  have b4 := Whole.made (((w.alloc (.cells #[.func (.func g) #[] cap] 59)).alloc (.cells #[.int .u8 0, .int .u64 0, .int .u64 0, .slice none 0 0] 25)).alloc (.cells #[.int .i64 0, .int .i64 0] 35)) 25 #[.int .u8 0, .int .u64 0, .int .u64 0, .slice none 0 0]
  simp only [World.size_alloc] at b2 b3 b4
  exact ⟨by simp [vWorldI], ((b1.alloc _).alloc _).alloc _, (b2.alloc _).alloc _, b3.alloc _, b4,
    ((((Below.refl _ _).alloc (Nat.le_refl _) _).alloc (by simp) _).alloc (by simp; omega) _).alloc (by simp; omega) _⟩
theorem value_outI {g : FuncId} {cap : Array Value} {q : Nat} {w : World} (hcf : ∀ w : World, (callFunc g cap).run Tryd.prog w = .ok (.enter g cap) w) (hq : q < w.heap.size)
    (hT : ∀ x W W' b, w.heap.size ≤ b → b < w.heap.size + 5 → T x W → W.grownBy W' (some b) → T x W')
    (h : ∀ W, Below w.heap.size w W → w.heap.size + 5 ≤ W.heap.size → Calls Tryd.prog g cap W fun e w' => ∃ x, e = .returned (insV x.1 x.2.1 x.2.2) ∧ T x w' ∧ W.grownBy w' (some q)) :
    Calls Tryd.prog 78 #[.func (.func 79) #[] #[.pointer (some ⟨w.heap.size, 0, none⟩), .pointer (some ⟨w.heap.size + 3, 0, none⟩)]] (vWorldI g cap w) fun e w' => e = .returned (.agg #[.int .i64 0, .int .i64 0]) ∧ ∃ x, VSI T w q x w' := by
  obtain ⟨hz, b1, b2, b3, b4, hbe⟩ := vWorld_factsI g cap w
  have b5 := Whole.made (vWorldI g cap w) 35 #[.int .i64 0, .int .i64 0]
  have hbe2 : Below w.heap.size w ((vWorldI g cap w).alloc (.cells #[.int .i64 0, .int .i64 0] 35)) := hbe.alloc (by omega) _
  have hc := valClosI (T := T) (z := #[.int .u8 0, .int .u64 0, .int .u64 0, .slice none 0 0]) rfl hcf (b1.alloc (.cells #[.int .i64 0, .int .i64 0] 35)) (b4.alloc _) (by omega : q < w.heap.size + 3) (fun x W W' => hT x W W' _ (by omega) (by omega)) (h _ hbe2 (by rw [size_box]; omega))
  refine (out_any _ _ 0 0 (vWorldI g cap w) (fun w1 => (∃ x, VSI T w q x w1) ∧ Whole w1 (vWorldI g cap w).heap.size 35 #[.int .i64 0, .int .i64 0]) (cfVI _) (hc.mono ?_) (fun _ h => h.2)).mono ?_
  · rintro e w' ⟨rfl, x, hs, hv, w1, hg1, hg2⟩
    have hz2 : w.heap.size + 5 ≤ w1.heap.size := by have := hg1.size; simp only [World.size_alloc] at this; omega
    refine ⟨.inl ⟨rfl, rfl, rfl⟩, ⟨x, hs, ?_, hv, ?_, ?_⟩, ?_⟩
    · exact gb_before (gb_trans (gb_of_below (some q) hbe2) hg1) hg2 (fun g e => .inr (by injection e with e; omega))
    · exact ((b2.alloc _).grown hg1 (by simp only [ne_eq, Option.some.injEq]; omega)).grown hg2 (by simp only [ne_eq, Option.some.injEq]; omega)
    · exact ((b3.alloc _).grown hg1 (by simp only [ne_eq, Option.some.injEq]; omega)).grown hg2 (by simp only [ne_eq, Option.some.injEq]; omega)
    · exact (b5.grown hg1 (by simp only [ne_eq, Option.some.injEq]; omega)).grown hg2 (by simp only [ne_eq, Option.some.injEq]; omega)
  · rintro e w' ⟨rfl, w1, ⟨⟨x, hs⟩, _⟩, hg⟩
    rw [hz] at hg
    exact ⟨rfl, x, hT x _ _ _ (by omega) (by omega) hs.kept hg, gb_before hs.grown hg (fun g e => .inr (by injection e with e; omega)), hs.val.grown hg (by simp only [ne_eq, Option.some.injEq]; omega), hs.r1.grown hg (by simp only [ne_eq, Option.some.injEq]; omega), hs.r2.grown hg (by simp only [ne_eq, Option.some.injEq]; omega)⟩

set_option maxHeartbeats 800000 in
/-- Value of a function that ends well. -/
theorem valueI_ok {g : FuncId} {cap : Array Value} {q : Nat} {w : World} (hcf : ∀ w : World, (callFunc g cap).run Tryd.prog w = .ok (.enter g cap) w) (hq : q < w.heap.size)
    (hT : ∀ x W W' b, w.heap.size ≤ b → b < w.heap.size + 5 → T x W → W.grownBy W' (some b) → T x W')
    (h : ∀ W, Below w.heap.size w W → w.heap.size + 5 ≤ W.heap.size → Calls Tryd.prog g cap W fun e w' => ∃ x, e = .returned (insV x.1 x.2.1 x.2.2) ∧ T x w' ∧ W.grownBy w' (some q)) :
    Calls Tryd.prog 30 #[.func (.func g) #[] cap] w fun e w' => ∃ x, e = .returned (.tuple #[insV x.1 x.2.1 x.2.2, .agg #[.int .i64 0, .int .i64 0]]) ∧ T x w' ∧ w.grownBy w' (some q) := by
  have hv := value_outI hcf hq hT h
  unfold vWorldI at hv
  have HV := Lib.hid hv
  have HT := Lib.hid hT
  have hmf : ∀ (fn : Fn) (first cap : Array Value) (w : World), (Instr.makeFunc fn first cap).run Tryd.prog w = .ok (.func fn first cap) w := fun _ _ _ _ => rfl
  clear h hv hcf hT
  go_enter Tryd.func30, Tryd.ntmps30
  go_wp2_with (go_at_call 78; go_must (refine HV.out.mono ?_; rintro e w2 ⟨rfl, x, hl⟩; have k0 := fun o => (hl.val.alloc o).cell 0; have f0 := fun o => (hl.r1.alloc o).frozen 0; have m0 := fun o => (hl.r1.alloc o).cell 0; have k1 := fun o => (hl.val.alloc o).cell 1; have f1 := fun o => (hl.r1.alloc o).frozen 1; have m1 := fun o => (hl.r1.alloc o).cell 1; have k2 := fun o => (hl.val.alloc o).cell 2; have f2 := fun o => (hl.r1.alloc o).frozen 2; have m2 := fun o => (hl.r1.alloc o).cell 2; have k3 := fun o => (hl.val.alloc o).cell 3; have f3 := fun o => (hl.r1.alloc o).frozen 3; have m3 := fun o => (hl.r1.alloc o).cell 3; have f8 := fun o => (hl.r2.alloc o).frozen 0; have f9 := fun o => (hl.r2.alloc o).frozen 1; have m8 := fun o => (hl.r2.alloc o).cell 0; have m9 := fun o => (hl.r2.alloc o).cell 1; simp only [List.getElem?_toArray, List.getElem?_cons_zero, List.getElem?_cons_succ] at k0 k1 k2 k3 m0 m1 m2 m3 m8 m9; have hz := hl.grown.size; have HL := Lib.hid hl; clear hl))
  have hb : w.heap.size + 1 + 1 = w.heap.size + 2 := by omega
  rw [hb]
  obtain ⟨p1, g1⟩ := put4 (u0 := .int .u8 x.1.op.toNat) (u1 := .int .u64 x.1.a) (u2 := .int .u64 x.1.b) (u3 := .slice x.2.1 x.1.l.length x.2.2) (HL.out.r1.alloc (.cells #[.int .i64 0, .int .i64 0] 35))
  obtain ⟨p2, g2⟩ := put2 (u0 := .int .i64 0) (u1 := .int .i64 0) ((HL.out.r2.alloc (.cells #[.int .i64 0, .int .i64 0] 35)).grown g1 (by simp only [ne_eq, Option.some.injEq]; omega))
  have p3 := p1.grown g2 (by simp only [ne_eq, Option.some.injEq]; omega)
  have q0 := p3.cell 0
  have q1 := p3.cell 1
  have q2 := p3.cell 2
  have q3 := p3.cell 3
  have q8 := p2.cell 0
  have q9 := p2.cell 1
  simp only [List.getElem?_toArray, List.getElem?_cons_zero, List.getElem?_cons_succ] at q0 q1 q2 q3 q8 q9
  refine bodyPost_ret (v := .tuple #[insV x.1 x.2.1 x.2.2, .agg #[.int .i64 0, .int .i64 0]]) (by simp [results, Tryd.results30, go_sem, q0, q1, q2, q3, q8, q9]) rfl ⟨x, rfl, ?_, ?_⟩
  · exact HT.out _ _ _ _ (by omega) (by omega) (HT.out _ _ _ _ (by omega) (by omega) (HT.out _ _ _ w.heap.size (Nat.le_refl _) (by omega) HL.out.kept (gb_alloc (gb_refl _ _) _)) g1) g2
  · exact gb_before (gb_before (gb_alloc HL.out.grown _) g1 (fun g e => .inr (by injection e with e; omega))) g2 (fun g e => .inr (by injection e with e; omega))
end
end Go.Proofs.YtebgmfjgapmpfaaDoor

/- parse and Parse of an instruction's bytes. -/
namespace Go.Proofs.YtebgmfjgapmpfaaDoor
open Go.RowKit
set_option linter.unusedVariables false
set_option maxRecDepth 100000

theorem cfP (cap : Array Value) (w : World) : (callFunc 111 cap).run Tryd.prog w = .ok (.enter 111 cap) w := by kernel_rfl
/-- What is kept of an instruction that was read. -/
def KeepI (p : Nat) (l : List UInt8) (i : I) (k lo : Nat) (x : I × Option Addr × Nat) (W : World) : Prop :=
  x.1 = i ∧ Sc W p l k ∧ Lies W W.heap.size x.2.1 (cells32 i.l) ∧ ∀ a, x.2.1 = some a → lo ≤ a.block
theorem KeepI.on {p : Nat} {l : List UInt8} {i : I} {k lo : Nat} {x : I × Option Addr × Nat} {W W' : World} {b : Nat} (h : KeepI p l i k lo x W) (hg : W.grownBy W' (some b)) (h1 : p < b) (h2 : b < lo) : KeepI p l i k lo x W' := by
  obtain ⟨h3, h4, h5, h6⟩ := h
  exact ⟨h3, h4.grown hg (by simp only [ne_eq, Option.some.injEq]; omega) (fun g e => by injection e with e; omega), h5.keep hg (fun a ha => by have := h6 a ha; omega), h6⟩
/-- parse's closure. -/
theorem pclosI {w : World} {b3 b7 p : Nat} {l r : List UInt8} {k : Nat} {i : I} (h : i.Ok) (hr : rightZ i = 0) (hs : Sc w p l k) (hT : TbP p w) (hd : l.drop k = putL i ++ r)
    (h3 : Whole w b3 58 #[.func (.func 70) #[] #[]]) (h7 : Whole w b7 51 #[.pointer (some ⟨p, 0, none⟩)]) :
    Calls Tryd.prog 111 #[.pointer (some ⟨b3, 0, none⟩), .pointer (some ⟨b7, 0, none⟩)] w fun e w' => ∃ x : I × Option Addr × Nat, e = .returned (insV x.1 x.2.1 x.2.2) ∧ KeepI p l i (k + (putL i).length) w.heap.size x w' ∧ w.grownBy w' (some p) := by
  have hlt := hs.lt
  have HG := Lib.hid (get_ok h hr (hs.alloc (.cells #[.int .u8 0, .int .u64 0, .int .u64 0, .slice none 0 0] 25)) (hT.below (below_box w _) (Nat.le_of_lt hlt)) hd)
  have HWM := Lib.hid (Whole.made w 25 #[.int .u8 0, .int .u64 0, .int .u64 0, .slice none 0 0])
  have c3 := (h3.alloc (.cells #[.int .u8 0, .int .u64 0, .int .u64 0, .slice none 0 0] 25)).cell 0
  have c7 := (h7.alloc (.cells #[.int .u8 0, .int .u64 0, .int .u64 0, .slice none 0 0] 25)).cell 0
  simp only [List.getElem?_toArray, List.getElem?_cons_zero] at c3 c7
  clear h hr hs hT hd h3 h7
  go_enter Tryd.func111, Tryd.ntmps111
  go_wp2_with (go_at_call 70; go_must ((with_reducible refine HG.out.mono ?_); intro e w2 h; obtain ⟨A, c, rfl, hla, hfar, hs, hg, _⟩ := h; have HR := Lib.hid (HWM.out.grown hg (by simp only [ne_eq, Option.some.injEq]; omega)); have r0 := HR.out.cell 0; have r1 := HR.out.cell 1; have r2 := HR.out.cell 2; have r3 := HR.out.cell 3; have z0 := HR.out.frozen 0; have z1 := HR.out.frozen 1; have z2 := HR.out.frozen 2; have z3 := HR.out.frozen 3; simp only [List.getElem?_toArray, List.getElem?_cons_zero, List.getElem?_cons_succ] at r0 r1 r2 r3; have HS := Lib.hid hs; have HG2 := Lib.hid hg; have HLA := Lib.hid hla; have HF := Lib.hid hfar; clear hs hg hla hfar))
  obtain ⟨q, g⟩ := put4 (u0 := .int .u8 i.op.toNat) (u1 := .int .u64 i.a) (u2 := .int .u64 i.b) (u3 := .slice A i.l.length c) HR.out
  have q0 := q.cell 0
  have q1 := q.cell 1
  have q2 := q.cell 2
  have q3 := q.cell 3
  simp only [List.getElem?_toArray, List.getElem?_cons_zero, List.getElem?_cons_succ] at q0 q1 q2 q3
  refine bodyPost_ret (v := insV i A c) (by simp [results, Tryd.results111, go_sem, q0, q1, q2, q3]) rfl ⟨(i, A, c), rfl, ⟨rfl, ?_, ?_, ?_⟩, ?_⟩
  · exact HS.out.grown g (by simp only [ne_eq, Option.some.injEq]; omega) (fun g e => by injection e with e; omega)
  · exact HLA.out.keep g (fun a ha => by have := HF.out a ha; rw [size_box] at this; omega)
  · intro a ha
    have := HF.out a ha
    rw [size_box] at this
    omega
  · exact gb_before (gb_trans (gb_alloc (gb_refl w _) _) HG2.out) g (fun g e => .inr (by injection e with e; omega))

theorem parse_value {w0 w1 : World} {b3 p : Nat} {l r : List UInt8} {i : I} (h : i.Ok) (hr : rightZ i = 0) (hs : Sc w1 p l 0) (hT : TbP p w0) (hb : Below w0.heap.size w0 w1) (hz : w0.heap.size ≤ w1.heap.size) (hd : l.drop 0 = putL i ++ r)
    (h3 : Whole w0 b3 58 #[.func (.func 70) #[] #[]]) :
    Calls Tryd.prog 30 #[.func (.func 111) #[] #[.pointer (some ⟨b3, 0, none⟩), .pointer (some ⟨w1.heap.size, 0, none⟩)]] (w1.alloc (.cells #[.pointer (some ⟨p, 0, none⟩)] 51)) fun e w' =>
      ∃ x : I × Option Addr × Nat, e = .returned (.tuple #[insV x.1 x.2.1 x.2.2, .agg #[.int .i64 0, .int .i64 0]]) ∧ KeepI p l i (putL i).length (w1.heap.size + 6) x w' ∧ (w1.alloc (.cells #[.pointer (some ⟨p, 0, none⟩)] 51)).grownBy w' (some p) := by
  have hlt := hs.lt
  refine valueI_ok (cfP _) (by rw [size_box]; omega) (fun x W W' b h1 h2 hx hg => hx.on hg (by rw [size_box] at h1; omega) (by rw [size_box] at h2; omega)) (fun W hW hz5 => ?_)
  have hb3 := ((h3.below hb).alloc (.cells #[.pointer (some ⟨p, 0, none⟩)] 51)).below hW
  have hb7 := (Whole.made w1 51 #[.pointer (some ⟨p, 0, none⟩)]).below hW
  have hs2 := (hs.alloc (.cells #[.pointer (some ⟨p, 0, none⟩)] 51)).below hW
  have ht2 : TbP p W := by
    obtain ⟨W0, g1, g2, g3⟩ := hT
    exact ⟨W0, g1, g2, ((g3.trans (hb.mono g3.size)).trans ((below_box w1 _).mono (Nat.le_trans g3.size hz))).trans (hW.mono (by rw [size_box]; have := g3.size; omega))⟩
  refine (pclosI h hr hs2 ht2 hd hb3 hb7).mono ?_
  rintro e w' ⟨x, rfl, hx, hg⟩
  obtain ⟨g1, g2, g3, g4⟩ := hx
  rw [Nat.zero_add] at g2
  rw [size_box] at hz5
  exact ⟨x, rfl, ⟨g1, g2, g3, fun a ha => by have := g4 a ha; omega⟩, hg⟩

/-- What parse hands back. -/
def Parsed (i : I) (n : Nat) (w : World) (e : Ending) (w' : World) : Prop :=
  ∃ A c, e = .returned (.tuple #[insV i A c, .int .i64 n, .agg #[.int .i64 0, .int .i64 0]]) ∧ Lies w' w'.heap.size A (cells32 i.l) ∧ Below w.heap.size w w' ∧ ∀ a, A = some a → w.heap.size ≤ a.block
theorem parsed_of {i : I} {A : Option Addr} {c n m : Nat} {w W : World} (hn : n = m) (h : Lies W W.heap.size A (cells32 i.l)) (hb : Below w.heap.size w W) (hf : ∀ a, A = some a → w.heap.size + 3 ≤ a.block) : Parsed i n w (.returned (.tuple #[insV i A c, .int .i64 m, .agg #[.int .i64 0, .int .i64 0]])) W.drew :=
  ⟨A, c, by rw [hn], h, hb.drew, fun a ha => by have := hf a ha; omega⟩
/-- The world in which parse's results are written. -/
structure ParseEnd (i : I) (A : Option Addr) (c p : Nat) (l : List UInt8) (w w1 w2 W : World) (n : Nat) : Prop where
  sc : Sc W p l n
  lab : Lies W W.heap.size A (cells32 i.l) ∧ ∀ a, A = some a → w.heap.size + 3 ≤ a.block
  bel : Below w.heap.size w W
  val : W.cell? ⟨w2.heap.size, 0, none⟩ = some (.int .u8 i.op.toNat) ∧ W.cell? ⟨w2.heap.size, 1, none⟩ = some (.int .u64 i.a) ∧ W.cell? ⟨w2.heap.size, 2, none⟩ = some (.int .u64 i.b) ∧ W.cell? ⟨w2.heap.size, 3, none⟩ = some (.slice A i.l.length c)
  ptr : W.cell? ⟨w1.heap.size, 0, none⟩ = some (.pointer (some ⟨p, 0, none⟩))
  stop : W.cell? ⟨w2.heap.size + 1, 0, none⟩ = some (.int .i64 0) ∧ W.cell? ⟨w2.heap.size + 1, 1, none⟩ = some (.int .i64 0)
  res : W.cell? ⟨w.heap.size + 1, 0, none⟩ = some (.int .u8 0) ∧ W.cell? ⟨w.heap.size + 1, 1, none⟩ = some (.int .u64 0) ∧ W.cell? ⟨w.heap.size + 1, 2, none⟩ = some (.int .u64 0) ∧ W.cell? ⟨w.heap.size + 1, 3, none⟩ = some (.slice none 0 0)
  free : W.frozen? ⟨w.heap.size + 1, 0, none⟩ = false ∧ W.frozen? ⟨w.heap.size + 1, 1, none⟩ = false ∧ W.frozen? ⟨w.heap.size + 1, 2, none⟩ = false ∧ W.frozen? ⟨w.heap.size + 1, 3, none⟩ = false
  res6 : W.cell? ⟨w.heap.size + 1 + 1, 0, none⟩ = some (.int .i64 0) ∧ W.cell? ⟨w.heap.size + 1 + 1, 1, none⟩ = some (.int .i64 0)
  free6 : W.frozen? ⟨w.heap.size + 1 + 1, 0, none⟩ = false ∧ W.frozen? ⟨w.heap.size + 1 + 1, 1, none⟩ = false
  w4 : Whole W (w.heap.size + 1) 25 #[.int .u8 0, .int .u64 0, .int .u64 0, .slice none 0 0]
  w6 : Whole W (w.heap.size + 1 + 1) 35 #[.int .i64 0, .int .i64 0]
  n1 : ¬ w2.heap.size = w.heap.size
  n2 : ¬ w2.heap.size = w.heap.size + 1
  n3 : ¬ w2.heap.size + 1 = w.heap.size
theorem ParseEnd.of {i : I} {A : Option Addr} {c p : Nat} {l : List UInt8} {w w0 w1 w2 : World} {n : Nat} (h0 : w0.heap.size = w.heap.size + 3) (hb0 : Below w.heap.size w w0) (h4 : Whole w0 (w.heap.size + 1) 25 #[.int .u8 0, .int .u64 0, .int .u64 0, .slice none 0 0]) (h6 : Whole w0 (w.heap.size + 2) 35 #[.int .i64 0, .int .i64 0])
    (hb : Below w0.heap.size w0 w1) (hz1 : w0.heap.size ≤ w1.heap.size) (hp : w0.heap.size ≤ p ∧ p < w1.heap.size) (hg : (w1.alloc (.cells #[.pointer (some ⟨p, 0, none⟩)] 51)).grownBy w2 (some p)) (hk : Sc w2 p l n ∧ Lies w2 w2.heap.size A (cells32 i.l) ∧ ∀ a, A = some a → w1.heap.size + 6 ≤ a.block) :
    ParseEnd i A c p l w w1 w2 ((w2.alloc (.cells (insC i A c) 25)).alloc (.cells #[.int .i64 0, .int .i64 0] 35)) n := by
  have hz2 := hg.size
  rw [size_box] at hz2
  obtain ⟨k1, k2, k3⟩ := hk
  have w4 := ((((h4.below hb).alloc (.cells #[.pointer (some ⟨p, 0, none⟩)] 51)).grown hg (by simp only [ne_eq, Option.some.injEq]; omega)).alloc (.cells (insC i A c) 25)).alloc (.cells #[.int .i64 0, .int .i64 0] 35)
  have w6 := ((((h6.below hb).alloc (.cells #[.pointer (some ⟨p, 0, none⟩)] 51)).grown hg (by simp only [ne_eq, Option.some.injEq]; omega)).alloc (.cells (insC i A c) 25)).alloc (.cells #[.int .i64 0, .int .i64 0] 35)
  have w7 := (((Whole.made w1 51 #[.pointer (some ⟨p, 0, none⟩)]).grown hg (by simp only [ne_eq, Option.some.injEq]; omega)).alloc (.cells (insC i A c) 25)).alloc (.cells #[.int .i64 0, .int .i64 0] 35)
  have w8 := (Whole.made w2 25 (insC i A c)).alloc (.cells #[.int .i64 0, .int .i64 0] 35)
  have w9 := Whole.made (w2.alloc (.cells (insC i A c) 25)) 35 #[.int .i64 0, .int .i64 0]
  rw [size_box] at w9
  refine ⟨(k1.alloc _).alloc _, ⟨lies_box (lies_box k2 _) _, fun a ha => by have := k3 a ha; omega⟩, ?_, ⟨w8.cell 0, w8.cell 1, w8.cell 2, w8.cell 3⟩, w7.cell 0, ⟨w9.cell 0, w9.cell 1⟩, ⟨w4.cell 0, w4.cell 1, w4.cell 2, w4.cell 3⟩, ⟨w4.frozen 0, w4.frozen 1, w4.frozen 2, w4.frozen 3⟩, ⟨w6.cell 0, w6.cell 1⟩, ⟨w6.frozen 0, w6.frozen 1⟩, w4, w6, by omega, by omega, by omega⟩
  have b1 : Below w.heap.size w (w1.alloc (.cells #[.pointer (some ⟨p, 0, none⟩)] 51)) := (hb0.trans (hb.mono (by omega))).alloc (by omega) _
  have b2 : Below w.heap.size w w2 := Below.grown b1 hg (by rw [size_box]; omega) (fun g e => by injection e with e; omega)
  exact (b2.alloc (by omega) _).alloc (by rw [size_box]; omega) _
theorem ParseEnd.fin {i : I} {A : Option Addr} {c p : Nat} {l : List UInt8} {w w1 w2 W : World} {n : Nat} (h : ParseEnd i A c p l w w1 w2 W n) (W6 : World)
    (hW : W6 = (((((W.setCell ⟨w.heap.size + 1, 0, none⟩ (.int .u8 i.op.toNat)).setCell ⟨w.heap.size + 1, 1, none⟩ (.int .u64 i.a)).setCell ⟨w.heap.size + 1, 2, none⟩ (.int .u64 i.b)).setCell ⟨w.heap.size + 1, 3, none⟩ (.slice A i.l.length c)).setCell ⟨w.heap.size + 1 + 1, 0, none⟩ (.int .i64 0)).setCell ⟨w.heap.size + 1 + 1, 1, none⟩ (.int .i64 0)) :
    Whole W6 (w.heap.size + 1) 25 (insC i A c) ∧ Whole W6 (w.heap.size + 1 + 1) 35 #[.int .i64 0, .int .i64 0] ∧ Lies W6 W6.heap.size A (cells32 i.l) ∧ Below w.heap.size w W6 := by
  subst hW
  obtain ⟨p1, g1⟩ := put4 (u0 := .int .u8 i.op.toNat) (u1 := .int .u64 i.a) (u2 := .int .u64 i.b) (u3 := .slice A i.l.length c) h.w4
  obtain ⟨p2, g2⟩ := put2 (u0 := .int .i64 0) (u1 := .int .i64 0) (h.w6.grown g1 (by simp only [ne_eq, Option.some.injEq]; omega))
  have hz := g1.size
  have hzw := h.w4.lt
  refine ⟨p1.grown g2 (by simp only [ne_eq, Option.some.injEq]; omega), p2, (h.lab.1.keep g1 (fun a ha => by have := h.lab.2 a ha; omega)).keep g2 (fun a ha => by have := h.lab.2 a ha; omega), ?_⟩
  have b1 : Below w.heap.size w _ := Below.grown h.bel g1 (by omega) (fun g e => by injection e with e; omega)
  exact Below.grown b1 g2 (by omega) (fun g e => by injection e with e; omega)
set_option maxHeartbeats 2000000 in
theorem parse_ok {w : World} {A : Option Addr} {cap : Nat} {l r : List UInt8} {i : I} (hT : Tabs w) (h : i.Ok) (hr : rightZ i = 0) (hl : Lies w w.heap.size A (cells (nums l))) (hc : l.length ≤ 1000000) (hd : l = putL i ++ r) :
    Calls Tryd.prog 69 #[.slice A l.length cap, .func (.func 70) #[] #[]] w (Parsed i (putL i).length w) := by
  have h0 : 0 < l.length := by rw [hd]; unfold putL; simp
  obtain ⟨w0, hw0⟩ : ∃ w0, w0 = ((w.alloc (.cells #[.func (.func 70) #[] #[]] 58)).alloc (.cells #[.int .u8 0, .int .u64 0, .int .u64 0, .slice none 0 0] 25)).alloc (.cells #[.int .i64 0, .int .i64 0] 35) := ⟨_, rfl⟩
  have hsz : w0.heap.size = w.heap.size + 3 := by rw [hw0]; simp
  have hb0 : Below w.heap.size w w0 := by rw [hw0]; exact ((below_box w _).alloc (by simp) _).alloc (by simp; omega) _
  have b3 : Whole w0 w.heap.size 58 #[.func (.func 70) #[] #[]] := by rw [hw0]; exact ((Whole.made w _ _).alloc _).alloc _
  have b4 : Whole w0 (w.heap.size + 1) 25 #[.int .u8 0, .int .u64 0, .int .u64 0, .slice none 0 0] := by
    rw [hw0]; have := Whole.made (w.alloc (.cells #[.func (.func 70) #[] #[]] 58)) 25 #[.int .u8 0, .int .u64 0, .int .u64 0, .slice none 0 0]
    rw [size_box] at this
    exact this.alloc _
  have b6 : Whole w0 (w.heap.size + 2) 35 #[.int .i64 0, .int .i64 0] := by
    rw [hw0]; have := Whole.made ((w.alloc (.cells #[.func (.func 70) #[] #[]] 58)).alloc (.cells #[.int .u8 0, .int .u64 0, .int .u64 0, .slice none 0 0] 25)) 35 #[.int .i64 0, .int .i64 0]
    rw [size_box, size_box] at this
    exact this
  have HO := Lib.hid (over_ok (cap := cap) ((hl.below hb0 (Nat.le_refl _)).more hb0.size) h0 hc)
  have HB3 := Lib.hid b3
  have HB4 := Lib.hid b4
  have HB6 := Lib.hid b6
  have HB0 := Lib.hid hb0
  have HTT := Lib.hid (hT.below hb0)
  have HD := Lib.hid (show l.drop 0 = putL i ++ r from hd)
  have HOK := Lib.hid h
  have HR := Lib.hid hr
  rw [hw0] at HO
  have HSZ := Lib.hid hsz
  have HW0 := Lib.hid hw0
  clear hl hd h hr hT b3 b4 b6 hb0 hsz hw0
  obtain ⟨n, hn⟩ : ∃ n, n = (putL i).length := ⟨_, rfl⟩
  have HN := Lib.hid hn
  rw [← hn]
  clear hn
  have hmf : ∀ (fn : Fn) (first cap : Array Value) (w : World), (Instr.makeFunc fn first cap).run Tryd.prog w = .ok (.func fn first cap) w := fun _ _ _ _ => rfl
  go_enter Tryd.func69, Tryd.ntmps69
  go_wp2_with (first
    | (go_at_call 29; go_must ((with_reducible refine HO.out.mono ?_); rw [← HW0.out]; intro e w1 hq; obtain ⟨p, rfl, hp, hs, hb⟩ := hq; have HS := Lib.hid hs; have HB := Lib.hid hb; have hz1 := hb.size; have HP := Lib.hid hp; clear hs hb hp))
    | (go_at_call 30; go_must ((with_reducible refine (parse_value HOK.out HR.out HS.out (TbP.of HTT.out HP.out) HB.out hz1 HD.out HB3.out).mono ?_); rintro e w2 ⟨⟨i2, A2, c2⟩, rfl, hk, hg⟩; obtain rfl : i2 = i := hk.1; have HK := Lib.hid hk.2; have HG := Lib.hid hg; have hz2 := hg.size; rw [size_box] at hz2; clear hk hg)))
  have hend : ParseEnd i2 A2 c2 p l w w1 w2 ((w2.alloc (.cells (insC i2 A2 c2) 25)).alloc (.cells #[.int .i64 0, .int .i64 0] 35)) (putL i2).length :=
    .of HSZ.out HB0.out HB4.out HB6.out HB.out hz1 ⟨HP.out, HS.out.lt⟩ HG.out HK.out
  generalize ((w2.alloc (.cells (insC i2 A2 c2) 25)).alloc (.cells #[.int .i64 0, .int .i64 0] 35)) = W at *
  have HE := Lib.hid hend
  obtain ⟨hs, hla, hbw, ⟨k0, k1, k2, k3⟩, k7, ⟨k8, k9⟩, ⟨r0, r1, r2, r3⟩, ⟨z0, z1, z2, z3⟩, ⟨s0, s1⟩, ⟨y0, y1⟩, -, -, n1, n2, n3⟩ := hend
  have hs2 : Sc W.drew p l (putL i2).length := hs
  have HAT := Lib.hid (at_any hs2)
  clear hs hs2 hla hbw
  go_region_with (go_at_call 34; (with_reducible refine HAT.out.mono ?_); rintro e w' ⟨rfl, rfl⟩)
  all_goals
    go_wp2
    obtain ⟨p1, p2, p3, p4⟩ := HE.out.fin _ rfl
    have q0 := p1.drew.cell 0
    have q1 := p1.drew.cell 1
    have q2 := p1.drew.cell 2
    have q3 := p1.drew.cell 3
    have q4 := p2.drew.cell 0
    have q5 := p2.drew.cell 1
    simp only [List.getElem?_toArray, List.getElem?_cons_zero, List.getElem?_cons_succ] at q0 q1 q2 q3 q4 q5
    refine bodyPost_ret (v := .tuple #[insV i2 A2 c2, .int .i64 (putL i2).length, .agg #[.int .i64 0, .int .i64 0]]) (by simp [results, Tryd.results69, go_sem, q0, q1, q2, q3, q4, q5]) rfl (parsed_of HN.out p3 p4 HE.out.lab.2)
end Go.Proofs.YtebgmfjgapmpfaaDoor
