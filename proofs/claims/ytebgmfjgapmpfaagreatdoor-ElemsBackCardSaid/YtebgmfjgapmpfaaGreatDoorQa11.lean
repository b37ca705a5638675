/- globals.Get of any bytes. -/
import Derived.Test.YtebgmfjgapmpfaaGreatDoorQa10
import Derived.Test.YtebgmfjgapmpfaaGreatDoorQa07
import Derived.Test.YtebgmfjgapmpfaaGreatDoorQa09
import Derived.Test.YtebgmfjgapmpfaaGreatDoorQa02
import Derived.OwnWalk
import Derived.Deep.LoopGhost
import Derived.Test.YtebgmfjgapmpfaaGreatDoorQa06
import Derived.RegionTactic
namespace Go.Proofs.YtebgmfjgapmpfaaGreatDoor
open Go.RowKit
set_option linter.unusedVariables false
set_option maxRecDepth 100000

/-- A global. -/
noncomputable def gR (l : List UInt8) (k : Nat) : Res Gl := (globR l k).bind fun t k1 => (readR l k1).bind fun i k2 => .ok ⟨t.1, t.2, i⟩ k2
/-- What Get leaves behind. -/
def GotR (p : Nat) (l : List UInt8) (r : Res Gl) (w : World) (e : Ending) (w' : World) : Prop := match r with
  | .ok x k => ∃ A c, e = .returned (glV x A c) ∧ Sc w' p l k ∧ w.grownBy w' (some p)
  | .err c a => e = .panicked (stopP c a) ∧ w.grownBy w' (some p)
/-- Get once the type is read: the result's block, the type's box; what the reader at q turns. -/
structure GBG (w : World) (q bt : Nat) (t : UInt8) (m : Bool) (W : World) : Prop where
  res : Whole W w.heap.size 46 glZ
  bx : Whole W bt 40 #[.int .u8 t.toNat, .bool m]
  gr : w.grownBy W (some q)
  hp : q < w.heap.size
  lt : w.heap.size < bt
section
variable {w W W' : World} {q bt : Nat} {t : UInt8} {m : Bool}
theorem GBG.call (h : GBG w q bt t m W) (hg : W.grownBy W' (some q)) : GBG w q bt t m W' := by
  have a := h.hp
  have b := h.lt
  exact ⟨h.res.grown hg (by simp only [ne_eq, Option.some.injEq]; omega), h.bx.grown hg (by simp only [ne_eq, Option.some.injEq]; omega), gb_trans h.gr hg, a, b⟩
theorem GBG.start {w w1 : World} (hp : q < w.heap.size) (hg : (w.alloc (.cells glZ 46)).grownBy w1 (some q)) : GBG w q w1.heap.size t m (w1.alloc (.cells #[.int .u8 t.toNat, .bool m] 40)) := by
  have hz := hg.size
  rw [size_box] at hz
  exact ⟨((Whole.made w _ _).grown hg (by simp only [ne_eq, Option.some.injEq]; omega)).alloc _, Whole.made _ _ _, gb_alloc (gb_trans (gb_alloc (gb_refl w _) _) hg) _, hp, by omega⟩
theorem GBG.fin {x0 x1 x2 x3 x4 x5 : Value} (h : GBG w q bt t m W) :
    Whole ((((((W.setCell ⟨w.heap.size, 0, none⟩ x0).setCell ⟨w.heap.size, 1, none⟩ x1).setCell ⟨w.heap.size, 2, none⟩ x2).setCell ⟨w.heap.size, 3, none⟩ x3).setCell ⟨w.heap.size, 4, none⟩ x4).setCell ⟨w.heap.size, 5, none⟩ x5) w.heap.size 46 #[x0, x1, x2, x3, x4, x5] ∧
    W.grownBy ((((((W.setCell ⟨w.heap.size, 0, none⟩ x0).setCell ⟨w.heap.size, 1, none⟩ x1).setCell ⟨w.heap.size, 2, none⟩ x2).setCell ⟨w.heap.size, 3, none⟩ x3).setCell ⟨w.heap.size, 4, none⟩ x4).setCell ⟨w.heap.size, 5, none⟩ x5) (some w.heap.size) ∧
    w.grownBy ((((((W.setCell ⟨w.heap.size, 0, none⟩ x0).setCell ⟨w.heap.size, 1, none⟩ x1).setCell ⟨w.heap.size, 2, none⟩ x2).setCell ⟨w.heap.size, 3, none⟩ x3).setCell ⟨w.heap.size, 4, none⟩ x4).setCell ⟨w.heap.size, 5, none⟩ x5) (some q) := by
  obtain ⟨h1, h2⟩ := put6 (u0 := x0) (u1 := x1) (u2 := x2) (u3 := x3) (u4 := x4) (u5 := x5) h.res
  have := h.hp
  exact ⟨h1, h2, gb_before h.gr h2 (fun g e => .inr (by injection e with e; omega))⟩
end
set_option maxHeartbeats 4000000 in
theorem get_gl {w : World} {p : Nat} {l : List UInt8} {k : Nat} (h : Sc w p l k) (hT : TbP p w) :
    Calls Tryz.prog 48 #[.pointer (some ⟨p, 0, none⟩)] w (GotR p l (gR l k) w) := by
  have hp := h.lt
  have hG := global_scan (h.alloc (.cells glZ 46))
  have HT0 := Lib.hid (hT.below (below_box w (.cells glZ 46)) (Nat.le_of_lt hp))
  have HWM := Lib.hid (Whole.made w 46 glZ)
  unfold gR
  cases h1 : globR l k with
  | err c a =>
    rw [h1] at hG
    rw [Res.bind_err]
    have HG := Lib.hid hG
    clear hG h1 h hT
    go_enter Tryz.func48, Tryz.ntmps48
    go_wp2_with (go_at_call 92; go_must ((with_reducible refine HG.out.mono ?_); rintro e w1 ⟨rfl, hg⟩; have HG1 := Lib.hid hg; clear hg))
    exact ⟨rfl, rfl, gb_trans (gb_alloc (gb_refl w _) _) HG1.out⟩
  | ok t k1 =>
    rw [h1] at hG
    rw [Res.bind_ok]
    obtain ⟨t, m⟩ := t
    have HG := Lib.hid (show Calls Tryz.prog 92 #[.pointer (some ⟨p, 0, none⟩)] (w.alloc (.cells glZ 46)) (fun e w' => e = .returned (.agg #[.int .u8 t.toNat, .bool m]) ∧ Sc w' p l k1 ∧ (w.alloc (.cells glZ 46)).grownBy w' (some p)) from hG)
    clear hG h1 h hT
    have hC := fun W (hs : Sc W p l k1) (ht : TbP p W) => cread_any hs ht
    cases h2 : readR l k1 with
    | err c a =>
      rw [h2] at hC
      rw [Res.bind_err]
      have HC := Lib.hid (fun W (hs : Sc W p l k1) (ht : TbP p W) => show Calls Tryz.prog 93 #[.pointer (some ⟨p, 0, none⟩)] W (fun e w' => e = .panicked (stopP c a) ∧ W.grownBy w' (some p)) from hC W hs ht)
      clear hC h2
      go_enter Tryz.func48, Tryz.ntmps48
      go_wp2_with (go_at_call 92; go_must ((with_reducible refine HG.out.mono ?_); rintro e w1 ⟨rfl, hs, hg⟩; have HGB := Lib.hid (GBG.start (t := t) (m := m) hp hg); have HS1 := Lib.hid (hs.alloc (.cells #[.int .u8 t.toNat, .bool m] 40)); have HT1 := Lib.hid ((HT0.out.self hg).below (below_box w1 (.cells #[.int .u8 t.toNat, .bool m] 40)) (Nat.le_of_lt hs.lt)); clear hs hg))
      generalize w1.alloc (.cells #[.int .u8 t.toNat, .bool m] 40) = W at *
      generalize w1.heap.size = bt at *
      have x0 := HGB.out.bx.cell 0
      have x1 := HGB.out.bx.cell 1
      simp only [List.getElem?_toArray, List.getElem?_cons_zero, List.getElem?_cons_succ] at x0 x1
      have HC2 := Lib.hid (HC.out _ (show Sc W.drew p l k1 from HS1.out) (show TbP p W.drew from HT1.out.self (gb_drew (gb_refl _ _))))
      refine wp_region_held_drew (S := fun W' => W'.cell? ⟨bt, 0, none⟩ = some (.int .u8 t.toNat) ∧ W'.cell? ⟨bt, 1, none⟩ = some (.bool m)) (by kernel_rfl) ⟨x0, x1⟩ (fun hHeld => ?_)
      (refine wpAnyH_take (i := 0) (oi := { dst := some 6, op := Op.load 40 (Operand.tmp 3), type := 40, pos := "globals.go:32", after := #[], guard := none }) (v := ?_) rfl (by kernel_rfl) (by kernel_rfl) (by kernel_rfl) (fun _ _ _ h => h) ?_ (by assumption) ?_; rotate_left; focus (refine .inl ⟨by kernel_rfl, ?_⟩; intro w hSw; (try dsimp only at hSw); go_simp; (try with_reducible rfl)); (try simp only [Act.put, List.setIfInBounds_toArray, List.set_cons_zero, List.set_cons_succ]))
      (refine wpAnyH_take (i := 1) (oi := { dst := some 7, op := Op.move (Operand.tmp 0), type := 24, pos := "globals.go:32", after := #[], guard := none }) (v := ?_) rfl (by kernel_rfl) (by kernel_rfl) (by kernel_rfl) (fun _ _ _ h => h) ?_ (by assumption) ?_; rotate_left; focus (refine .inl ⟨by kernel_rfl, ?_⟩; intro w hSw; (try dsimp only at hSw); go_simp; (try with_reducible rfl)); (try simp only [Act.put, List.setIfInBounds_toArray, List.set_cons_zero, List.set_cons_succ]))
      refine wpAnyH_ready (rs := [2]) (by kernel_rfl) (by simp) ?_
      refine AllReadyH.cons (o := { dst := some 8, op := Op.call { callee := Callee.value (Operand.func 93), args := #[Operand.tmp 7], argTypes := #[24] }, type := 44, pos := "globals.go:32", after := #[{ on := 1, ground := Ground.data }], guard := none }) rfl (fun K hK => ?_) AllReadyH.nil
      go_simp
      (go_at_call 93; (with_reducible refine HC2.out.mono ?_); rintro e w2 ⟨rfl, hg⟩; exact ⟨rfl, rfl, gb_trans (gb_drew HGB.out.gr) hg⟩)
    | ok i k2 =>
      rw [h2] at hC
      rw [Res.bind_ok]
      have HC := Lib.hid (fun W (hs : Sc W p l k1) (ht : TbP p W) => show Calls Tryz.prog 93 #[.pointer (some ⟨p, 0, none⟩)] W (Gets p l i k2 W) from hC W hs ht)
      clear hC h2
      go_enter Tryz.func48, Tryz.ntmps48
      go_wp2_with (go_at_call 92; go_must ((with_reducible refine HG.out.mono ?_); rintro e w1 ⟨rfl, hs, hg⟩; have HGB := Lib.hid (GBG.start (t := t) (m := m) hp hg); have HS1 := Lib.hid (hs.alloc (.cells #[.int .u8 t.toNat, .bool m] 40)); have HT1 := Lib.hid ((HT0.out.self hg).below (below_box w1 (.cells #[.int .u8 t.toNat, .bool m] 40)) (Nat.le_of_lt hs.lt)); clear hs hg))
      generalize w1.alloc (.cells #[.int .u8 t.toNat, .bool m] 40) = W at *
      generalize w1.heap.size = bt at *
      have HC2 := Lib.hid (HC.out _ (show Sc W.drew p l k1 from HS1.out) (show TbP p W.drew from HT1.out.self (gb_drew (gb_refl _ _))))
      have HGD := Lib.hid (HGB.out.call (gb_drew (gb_refl W _)))
      have x0 := HGB.out.bx.cell 0
      have x1 := HGB.out.bx.cell 1
      simp only [List.getElem?_toArray, List.getElem?_cons_zero, List.getElem?_cons_succ] at x0 x1
      clear HC HS1 HT1 HGB HG HT0
      go_region_with (go_at_call 93; (with_reducible refine HC2.out.mono ?_); intro e w2 hq; obtain ⟨A, c, rfl, _, _, hs, hg, _⟩ := hq; have HS2 := Lib.hid hs; have HG2 := Lib.hid (HGD.out.call hg); have y0 := HG2.out.bx.cell 0; have y1 := HG2.out.bx.cell 1; simp only [List.getElem?_toArray, List.getElem?_cons_zero, List.getElem?_cons_succ] at y0 y1; have f0 := HG2.out.res.frozen 0; have f1 := HG2.out.res.frozen 1; have f2 := HG2.out.res.frozen 2; have f3 := HG2.out.res.frozen 3; have f4 := HG2.out.res.frozen 4; have f5 := HG2.out.res.frozen 5; have z0 := HG2.out.res.cell 0; have z1 := HG2.out.res.cell 1; have z2 := HG2.out.res.cell 2; have z3 := HG2.out.res.cell 3; have z4 := HG2.out.res.cell 4; have z5 := HG2.out.res.cell 5; simp only [List.getElem?_toArray, List.getElem?_cons_zero, List.getElem?_cons_succ] at z0 z1 z2 z3 z4 z5; clear hs hg)
      all_goals
        go_wp2
        obtain ⟨h1, h2, h3⟩ := GBG.fin (x0 := .int .u8 t.toNat) (x1 := .bool m) (x2 := .int .u8 i.op.toNat) (x3 := .int .u64 i.a) (x4 := .int .u64 i.b) (x5 := .slice A i.l.length c) HG2.out
        obtain ⟨q0, q1, q2, q3, q4, q5⟩ := Whole.gl (x := ⟨t, m, i⟩) h1
        have hs3 := HS2.out.grown h2 (by have := HG2.out.hp; simp only [ne_eq, Option.some.injEq]; omega) (fun g e => by have := HG2.out.hp; injection e with e; omega)
        exact bodyPost_ret (v := glV ⟨t, m, i⟩ A c) (by simp [results, Tryz.results48, go_sem, q0, q1, q2, q3, q4, q5]) rfl ⟨A, c, rfl, hs3, h3⟩
end Go.Proofs.YtebgmfjgapmpfaaGreatDoor

/- The reference's Global and creelref12.Get, whatever the reader's state. (By gen/genRefG.py.) -/
namespace Go.Proofs.YtebgmfjgapmpfaaGreatDoor
open Go.RowKit
set_option linter.unusedVariables false
set_option maxRecDepth 100000

/-- A global's type; behind an error the zero value. -/
def GlobP (q : Nat) (l : List UInt8) (r : Res (UInt8 × Bool)) (w : World) (e : Ending) (w' : World) : Prop :=
  ∃ v : UInt8 × Bool, e = .returned (encGl v) ∧ Rs w' q l (stOf r) ∧ (∀ y k, r = .ok y k → v = y) ∧ w.grownBy w' (some q)
set_option maxHeartbeats 2000000 in
theorem glob_ref {w : World} {q : Nat} {l : List UInt8} {s : RSt} (h : Rs w q l s) :
    Calls Tryz.prog 96 #[.pointer (some ⟨q, 0, none⟩)] w (GlobP q l (s.bind (globR l)) w) := by
  have hlt := h.lt
  have hV := val_ref (h.alloc (.cells #[.int .u8 0, .bool false] 40))
  have HWM := Lib.hid (Whole.made w 40 #[.int .u8 0, .bool false])
  have hr : s.bind (globR l) = (s.bind (valR l)).bind fun t k1 => (flagR l k1).bind fun m k2 => .ok (t, m) k2 := by
    cases s <;> rfl
  rw [hr]
  clear hr
  obtain ⟨r1, hr1⟩ : ∃ r1, r1 = s.bind (valR l) := ⟨_, rfl⟩
  rw [← hr1] at hV ⊢
  have HV := Lib.hid hV
  clear hV h hr1
  cases r1 with
  | err c a =>
    rw [Res.bind_err]
    have HB := Lib.hid (fun W (g : Rs W q l (.bad c a)) => show Calls Tryz.prog 106 #[.pointer (some ⟨q, 0, none⟩)] W fun e w' => e = .returned (.int .i64 0) ∧ Rs w' q l (.bad c a) ∧ W.grownBy w' (some q) from byte_ref g)
    have HNZ := Lib.hid (fun W (g : Rs W q l (.bad c a)) => show (c == 0) = false ∧ (c != 0) = true from ⟨by simpa using g.nz, by simpa using g.nz⟩)
    have HV := Lib.hid (show Calls Tryz.prog 130 #[.pointer (some ⟨q, 0, none⟩)] (w.alloc (.cells #[.int .u8 0, .bool false] 40)) (fun e w' => ∃ v : UInt8, e = .returned (.int .u8 v.toNat) ∧ Rs w' q l (.bad c a) ∧ (∀ d k, (Res.err c a : Res UInt8) = .ok d k → v = d) ∧ (w.alloc (.cells #[.int .u8 0, .bool false] 40)).grownBy w' (some q)) from HV.out)
    go_enter Tryz.func96, Tryz.ntmps96
    go_wp2_with (first
      | (go_at_call 130; go_must ((with_reducible refine HV.out.mono ?_); intro e w1 hq; obtain ⟨v, rfl, hs, hv, hg⟩ := hq; clear hv; have HS := Lib.hid hs; have HG := Lib.hid hg; have HW1 := Lib.hid (HWM.out.grown hg (by simp only [ne_eq, Option.some.injEq]; omega)); obtain ⟨jx, x1⟩ := at_bad hs; clear hs hg))
      | (go_at_call 106; go_must ((with_reducible refine (HB.out _ HS.out).mono ?_); rintro e w2 ⟨rfl, hs, hg⟩; have HS2 := Lib.hid hs; have HG2 := Lib.hid hg; have x2 := why_bad hs; have HW2 := Lib.hid (HW1.out.grown hg (by simp only [ne_eq, Option.some.injEq]; omega)); have f0 := HW2.out.frozen 0; have f1 := HW2.out.frozen 1; have z0 := HW2.out.cell 0; have z1 := HW2.out.cell 1; simp only [List.getElem?_toArray, List.getElem?_cons_zero, List.getElem?_cons_succ] at z0 z1; obtain ⟨d1, d2⟩ := HNZ.out _ HS2.out; clear hs hg x1)))
    obtain ⟨h1, h2⟩ := put2 (u0 := .int .u8 0) (u1 := .bool false) HW2.out
    have q0 := h1.cell 0
    have q1 := h1.cell 1
    simp only [List.getElem?_toArray, List.getElem?_cons_zero, List.getElem?_cons_succ] at q0 q1
    exact bodyPost_ret (v := .agg #[.int .u8 0, .bool false]) (by simp [results, Tryz.results96, go_sem, q0, q1]) rfl ⟨(0, false), rfl, HS2.out.grown h2 (by simp only [ne_eq, Option.some.injEq]; omega) (fun g e => by injection e with e; omega), (fun y k e => by cases e), gb_before (gb_trans (gb_trans (gb_alloc (gb_refl w _) _) HG.out) HG2.out) h2 (fun g e => .inr (by injection e with e; omega))⟩
  | ok t k1 =>
    rw [Res.bind_ok]
    have HV := Lib.hid (show Calls Tryz.prog 130 #[.pointer (some ⟨q, 0, none⟩)] (w.alloc (.cells #[.int .u8 0, .bool false] 40)) (fun e w' => ∃ v : UInt8, e = .returned (.int .u8 v.toNat) ∧ Rs w' q l (.at k1) ∧ (∀ d k, (Res.ok t k1 : Res UInt8) = .ok d k → v = d) ∧ (w.alloc (.cells #[.int .u8 0, .bool false] 40)).grownBy w' (some q)) from HV.out)
    have hB := fun W (g : Rs W q l (.at k1)) => show Calls Tryz.prog 106 #[.pointer (some ⟨q, 0, none⟩)] W fun e w' => e = .returned (.int .i64 (v8 (byteR l k1))) ∧ Rs w' q l (stOf (byteR l k1)) ∧ W.grownBy w' (some q) from byte_ref g
    unfold flagR
    cases hb : byteR l k1 with
    | err c a =>
      rw [hb] at hB
      rw [Res.bind_err, Res.bind_err]
      have HB := Lib.hid (fun W (g : Rs W q l (.at k1)) => show Calls Tryz.prog 106 #[.pointer (some ⟨q, 0, none⟩)] W fun e w' => e = .returned (.int .i64 0) ∧ Rs w' q l (.bad c a) ∧ W.grownBy w' (some q) from hB W g)
      have d1 : (c == 0) = false := by have := byteR_nz hb; simpa using this
      have d2 : (c != 0) = true := by have := byteR_nz hb; simpa using this
      clear hB hb
      go_enter Tryz.func96, Tryz.ntmps96
      go_wp2_with (first
        | (go_at_call 130; go_must ((with_reducible refine HV.out.mono ?_); intro e w1 hq; obtain ⟨v, rfl, hs, hv, hg⟩ := hq; obtain rfl := hv _ _ rfl; have HS := Lib.hid hs; have HG := Lib.hid hg; have HW1 := Lib.hid (HWM.out.grown hg (by simp only [ne_eq, Option.some.injEq]; omega)); have x1 := at_at hs; clear hs hg))
        | (go_at_call 106; go_must ((with_reducible refine (HB.out _ HS.out).mono ?_); rintro e w2 ⟨rfl, hs, hg⟩; have HS2 := Lib.hid hs; have HG2 := Lib.hid hg; have x2 := why_bad hs; have HW2 := Lib.hid (HW1.out.grown hg (by simp only [ne_eq, Option.some.injEq]; omega)); have f0 := HW2.out.frozen 0; have f1 := HW2.out.frozen 1; have z0 := HW2.out.cell 0; have z1 := HW2.out.cell 1; simp only [List.getElem?_toArray, List.getElem?_cons_zero, List.getElem?_cons_succ] at z0 z1; clear hs hg x1)))
      obtain ⟨h1, h2⟩ := put2 (u0 := .int .u8 0) (u1 := .bool false) HW2.out
      have q0 := h1.cell 0
      have q1 := h1.cell 1
      simp only [List.getElem?_toArray, List.getElem?_cons_zero, List.getElem?_cons_succ] at q0 q1
      exact bodyPost_ret (v := .agg #[.int .u8 0, .bool false]) (by simp [results, Tryz.results96, go_sem, q0, q1]) rfl ⟨(0, false), rfl, HS2.out.grown h2 (by simp only [ne_eq, Option.some.injEq]; omega) (fun g e => by injection e with e; omega), (fun y k e => by cases e), gb_before (gb_trans (gb_trans (gb_alloc (gb_refl w _) _) HG.out) HG2.out) h2 (fun g e => .inr (by injection e with e; omega))⟩
    | ok d k2 =>
      rw [hb] at hB
      rw [Res.bind_ok]
      have HB := Lib.hid (fun W (g : Rs W q l (.at k1)) => show Calls Tryz.prog 106 #[.pointer (some ⟨q, 0, none⟩)] W fun e w' => e = .returned (.int .i64 d.toNat) ∧ Rs w' q l (.at k2) ∧ W.grownBy w' (some q) from hB W g)
      clear hB hb
      by_cases hd : (d.toNat : Int) ≤ 1
      · rw [if_pos hd, Res.bind_ok]
        have d3 : decide ((1 : Int) < (d.toNat : Int)) = false := decide_eq_false (by omega)
        clear hd
        go_enter Tryz.func96, Tryz.ntmps96
        go_wp2_with (first
          | (go_at_call 130; go_must ((with_reducible refine HV.out.mono ?_); intro e w1 hq; obtain ⟨v, rfl, hs, hv, hg⟩ := hq; obtain rfl := hv _ _ rfl; have HS := Lib.hid hs; have HG := Lib.hid hg; have HW1 := Lib.hid (HWM.out.grown hg (by simp only [ne_eq, Option.some.injEq]; omega)); have x1 := at_at hs; clear hs hg))
          | (go_at_call 106; go_must ((with_reducible refine (HB.out _ HS.out).mono ?_); rintro e w2 ⟨rfl, hs, hg⟩; have HS2 := Lib.hid hs; have HG2 := Lib.hid hg; have x2 := why_at hs; have HW2 := Lib.hid (HW1.out.grown hg (by simp only [ne_eq, Option.some.injEq]; omega)); have f0 := HW2.out.frozen 0; have f1 := HW2.out.frozen 1; have z0 := HW2.out.cell 0; have z1 := HW2.out.cell 1; simp only [List.getElem?_toArray, List.getElem?_cons_zero, List.getElem?_cons_succ] at z0 z1; clear hs hg x1)))
        obtain ⟨h1, h2⟩ := put2 (u0 := .int .u8 v.toNat) (u1 := .bool ((d.toNat : Int) == 1)) HW2.out
        have q0 := h1.cell 0
        have q1 := h1.cell 1
        simp only [List.getElem?_toArray, List.getElem?_cons_zero, List.getElem?_cons_succ] at q0 q1
        exact bodyPost_ret (v := .agg #[.int .u8 v.toNat, .bool ((d.toNat : Int) == 1)]) (by simp [results, Tryz.results96, go_sem, q0, q1]) rfl ⟨(v, (d.toNat : Int) == 1), rfl, HS2.out.grown h2 (by simp only [ne_eq, Option.some.injEq]; omega) (fun g e => by injection e with e; omega), (fun y k e => by injection e with e1 e2), gb_before (gb_trans (gb_trans (gb_alloc (gb_refl w _) _) HG.out) HG2.out) h2 (fun g e => .inr (by injection e with e; omega))⟩
      · rw [if_neg hd, Res.bind_err]
        have d3 : decide ((1 : Int) < (d.toNat : Int)) = true := decide_eq_true (by omega)
        have HF := Lib.hid (fun W (g : Rs W q l (.at k2)) => show Calls Tryz.prog 95 #[.pointer (some ⟨q, 0, none⟩), .int .i64 10, .int .i64 k1] W fun e w' => e = .returned (.tuple #[]) ∧ Rs w' q l (.bad 10 k1) ∧ W.grownBy w' (some q) from fail_ref g 10 k1 (by decide))
        clear hd
        go_enter Tryz.func96, Tryz.ntmps96
        go_wp2_with (first
          | (go_at_call 130; go_must ((with_reducible refine HV.out.mono ?_); intro e w1 hq; obtain ⟨v, rfl, hs, hv, hg⟩ := hq; obtain rfl := hv _ _ rfl; have HS := Lib.hid hs; have HG := Lib.hid hg; have HW1 := Lib.hid (HWM.out.grown hg (by simp only [ne_eq, Option.some.injEq]; omega)); have x1 := at_at hs; clear hs hg))
          | (go_at_call 106; go_must ((with_reducible refine (HB.out _ HS.out).mono ?_); rintro e w2 ⟨rfl, hs, hg⟩; have HS2 := Lib.hid hs; have HG2 := Lib.hid hg; have x2 := why_at hs; have HW2 := Lib.hid (HW1.out.grown hg (by simp only [ne_eq, Option.some.injEq]; omega)); have tok := HW2; clear hs hg x1))
          | (go_at_call 95; go_must ((with_reducible refine (HF.out _ HS2.out).mono ?_); rintro e w3 ⟨rfl, hs, hg⟩; have HS3 := Lib.hid hs; have HG3 := Lib.hid hg; clear x2; have x2 := why_bad hs; have HW3 := Lib.hid (HW2.out.grown hg (by simp only [ne_eq, Option.some.injEq]; omega)); have f0 := HW3.out.frozen 0; have f1 := HW3.out.frozen 1; have z0 := HW3.out.cell 0; have z1 := HW3.out.cell 1; simp only [List.getElem?_toArray, List.getElem?_cons_zero, List.getElem?_cons_succ] at z0 z1; clear hs hg)))
        obtain ⟨h1, h2⟩ := put2 (u0 := .int .u8 0) (u1 := .bool false) HW3.out
        have q0 := h1.cell 0
        have q1 := h1.cell 1
        simp only [List.getElem?_toArray, List.getElem?_cons_zero, List.getElem?_cons_succ] at q0 q1
        exact bodyPost_ret (v := .agg #[.int .u8 0, .bool false]) (by simp [results, Tryz.results96, go_sem, q0, q1]) rfl ⟨(0, false), rfl, HS3.out.grown h2 (by simp only [ne_eq, Option.some.injEq]; omega) (fun g e => by injection e with e; omega), (fun y k e => by cases e), gb_before (gb_trans (gb_trans (gb_trans (gb_alloc (gb_refl w _) _) HG.out) HG2.out) HG3.out) h2 (fun g e => .inr (by injection e with e; omega))⟩

/-- What creelref12.Get leaves behind. -/
def RGotG (q : Nat) (l : List UInt8) (r : Res Gl) (w : World) (e : Ending) (w' : World) : Prop :=
  ∃ (x : Gl) (A : Option Addr) (c : Nat), e = .returned (glV x A c) ∧ Rs w' q l (stOf r) ∧ (∀ y k, r = .ok y k → x = y) ∧ w.grownBy w' (some q)
set_option maxHeartbeats 4000000 in
theorem rget_gl {w : World} {q : Nat} {l : List UInt8} {s : RSt} (h : Rs w q l s) :
    Calls Tryz.prog 50 #[.pointer (some ⟨q, 0, none⟩)] w (RGotG q l (s.bind (gR l)) w) := by
  have hp := h.lt
  have hG := glob_ref (h.alloc (.cells glZ 46))
  have hr : s.bind (gR l) = (s.bind (globR l)).bind fun t k1 => (readR l k1).bind fun i k2 => .ok ⟨t.1, t.2, i⟩ k2 := by cases s <;> rfl
  rw [hr]
  clear hr h
  obtain ⟨r1, hr1⟩ : ∃ r1, r1 = s.bind (globR l) := ⟨_, rfl⟩
  rw [← hr1] at hG ⊢
  have HG := Lib.hid (show Calls Tryz.prog 96 #[.pointer (some ⟨q, 0, none⟩)] (w.alloc (.cells glZ 46)) (fun e w' => ∃ v : UInt8 × Bool, e = .returned (.agg #[.int .u8 v.1.toNat, .bool v.2]) ∧ Rs w' q l (stOf r1) ∧ (∀ y k, r1 = .ok y k → v = y) ∧ (w.alloc (.cells glZ 46)).grownBy w' (some q)) from hG)
  clear hr1 hG
  have HC := Lib.hid (fun W (g : Rs W q l (stOf r1)) => refC_v g)
  have HE : Hid (stOf (r1.bind fun t k1 => (readR l k1).bind fun i k2 => .ok (⟨t.1, t.2, i⟩ : Gl) k2) = stOf ((stOf r1).bind (readR l)) ∧ ∀ (v : UInt8 × Bool) (i : I), (∀ y k, r1 = .ok y k → v = y) → (∀ y k, (stOf r1).bind (readR l) = .ok y k → i = y) → ∀ (y : Gl) k, (r1.bind fun t k1 => (readR l k1).bind fun i k2 => .ok (⟨t.1, t.2, i⟩ : Gl) k2) = .ok y k → (⟨v.1, v.2, i⟩ : Gl) = y) := by
    cases r1 with
    | err c a => exact ⟨rfl, fun v i _ _ y k e => by cases e⟩
    | ok t k1 =>
      rw [Res.bind_ok]
      show stOf ((readR l k1).bind fun i k2 => .ok (⟨t.1, t.2, i⟩ : Gl) k2) = stOf (readR l k1) ∧ ∀ (v : UInt8 × Bool) (i : I), (∀ y k, Res.ok t k1 = .ok y k → v = y) → (∀ y k, readR l k1 = .ok y k → i = y) → ∀ (y : Gl) k, ((readR l k1).bind fun i k2 => .ok (⟨t.1, t.2, i⟩ : Gl) k2) = .ok y k → (⟨v.1, v.2, i⟩ : Gl) = y
      cases readR l k1 with
      | err c a => exact ⟨rfl, fun v i _ _ y k e => by cases e⟩
      | ok j k2 => exact ⟨rfl, fun v i h1 h2 y k e => by
          obtain rfl := h1 _ _ rfl
          obtain rfl := h2 _ _ rfl
          rw [Res.bind_ok] at e
          injection e with e1 e2⟩
  obtain ⟨R, hR⟩ : ∃ R, R = r1.bind fun t k1 => (readR l k1).bind fun i k2 => .ok (⟨t.1, t.2, i⟩ : Gl) k2 := ⟨_, rfl⟩
  rw [← hR] at HE ⊢
  clear hR
  go_enter Tryz.func50, Tryz.ntmps50
  go_wp2_with (go_at_call 96; go_must ((with_reducible refine HG.out.mono ?_); intro e w1 hq; obtain ⟨v, rfl, hs, hv, hg⟩ := hq; have HV1 := Lib.hid hv; have HS1 := Lib.hid (hs.alloc (.cells #[.int .u8 v.1.toNat, .bool v.2] 40)); have HGB := Lib.hid (GBG.start (t := v.1) (m := v.2) hp hg); clear hs hg hv))
  generalize w1.alloc (.cells #[.int .u8 v.1.toNat, .bool v.2] 40) = W at *
  generalize w1.heap.size = bt at *
  have HC2 := Lib.hid (HC.out _ (show Rs W.drew q l (stOf r1) from HS1.out))
  have HGD := Lib.hid (HGB.out.call (gb_drew (gb_refl W _)))
  have x0 := HGB.out.bx.cell 0
  have x1 := HGB.out.bx.cell 1
  simp only [List.getElem?_toArray, List.getElem?_cons_zero, List.getElem?_cons_succ] at x0 x1
  clear HC HS1 HGB HG
  go_region_with (go_at_call 97; (with_reducible refine HC2.out.mono ?_); intro e w2 hq; obtain ⟨i, A, c, rfl, hs, hv, hg⟩ := hq; have HV2 := Lib.hid hv; have HS2 := Lib.hid hs; have HG2 := Lib.hid (HGD.out.call hg); have y0 := HG2.out.bx.cell 0; have y1 := HG2.out.bx.cell 1; simp only [List.getElem?_toArray, List.getElem?_cons_zero, List.getElem?_cons_succ] at y0 y1; have f0 := HG2.out.res.frozen 0; have f1 := HG2.out.res.frozen 1; have f2 := HG2.out.res.frozen 2; have f3 := HG2.out.res.frozen 3; have f4 := HG2.out.res.frozen 4; have f5 := HG2.out.res.frozen 5; have z0 := HG2.out.res.cell 0; have z1 := HG2.out.res.cell 1; have z2 := HG2.out.res.cell 2; have z3 := HG2.out.res.cell 3; have z4 := HG2.out.res.cell 4; have z5 := HG2.out.res.cell 5; simp only [List.getElem?_toArray, List.getElem?_cons_zero, List.getElem?_cons_succ] at z0 z1 z2 z3 z4 z5; clear hs hg hv)
  all_goals
    go_wp2
    obtain ⟨h1, h2, h3⟩ := GBG.fin (x0 := .int .u8 v.1.toNat) (x1 := .bool v.2) (x2 := .int .u8 i.op.toNat) (x3 := .int .u64 i.a) (x4 := .int .u64 i.b) (x5 := .slice A i.l.length c) HG2.out
    obtain ⟨q0, q1, q2, q3, q4, q5⟩ := Whole.gl (x := ⟨v.1, v.2, i⟩) h1
    have hs3 := HS2.out.grown h2 (by have := HG2.out.hp; simp only [ne_eq, Option.some.injEq]; omega) (fun g e => by have := HG2.out.hp; injection e with e; omega)
    exact bodyPost_ret (v := glV ⟨v.1, v.2, i⟩ A c) (by simp [results, Tryz.results50, go_sem, q0, q1, q2, q3, q4, q5]) rfl ⟨⟨v.1, v.2, i⟩, A, c, rfl, by rw [HE.out.1]; exact hs3, HE.out.2 v i HV1.out HV2.out, h3⟩
end Go.Proofs.YtebgmfjgapmpfaaGreatDoor

/- globals.Put; creelref12.Count, Put. -/
namespace Go.Proofs.YtebgmfjgapmpfaaGreatDoor
open Go.RowKit
set_option linter.unusedVariables false
set_option maxRecDepth 100000

noncomputable def gputL (x : Gl) : List UInt8 := encG x.t.toNat x.m ++ cputL x.i
theorem gputL_len {x : Gl} (h : x.i.Ok) (h0 : rG x = 0) : 3 ≤ (gputL x).length ∧ (gputL x).length ≤ 34 := by
  have h1 := cputL_len h (rG_zero h0).2
  have h2 : (encG x.t.toNat x.m).length = 2 := rfl
  unfold gputL
  rw [List.length_append]
  omega
/-- What Put hands back. -/
def PuttedG (x : Gl) (w : World) (e : Ending) (w' : World) : Prop := ∃ v, e = .returned (.tuple #[v, .int .i64 (rG x)]) ∧ Row w' w.heap.size v (if rG x = 0 then gputL x else []) ∧ Below w.heap.size w w'
set_option maxHeartbeats 8000000 in
theorem put_gl (x : Gl) (A : Option Addr) (c : Nat) (w : World) (oi : x.i.Ok) (hT : Tabs w) (hl : (x.i.l.length : Int) ≤ 9223372036854775807) :
    Calls Tryz.prog 43 #[glV x A c] w (PuttedG x w) := by
  have H0 := Lib.hid (bxG_start w x A c)
  have HR := Lib.hid (gright_any x A c _ oi (hT.below (below_box w (.cells (glC x A c) 46))) hl)
  unfold PuttedG
  by_cases h0 : rG x = 0
  · rw [if_pos h0]
    have hz := (rG_zero h0).2
    have hcl := cputL_len oi hz
    have hsp : gputL x = encG x.t.toNat x.m ++ cputL x.i := rfl
    have HP := Lib.hid (fun W (hb : Below w.heap.size w W) => show Calls Tryz.prog 85 #[insV x.i A c] W fun e w' => ∃ v, e = .returned (.tuple #[v, .int .i64 0]) ∧ Row w' W.heap.size v (cputL x.i) ∧ Below W.heap.size W w' from
      (cput2_any x.i A c W oi (hT.below hb) hz).mono fun e w' ⟨v, h1, h2, h3⟩ => ⟨v, by rw [hz] at h1; exact h1, by rw [if_pos hz] at h2; exact h2, h3⟩)
    have HE := Lib.hid (fun W => encG_any x.t.toNat x.m W (by omega) (u8_le _))
    have he2 : (encG x.t.toNat x.m).length = 2 := rfl
    rw [h0] at HR ⊢
    rw [hsp]
    generalize cputL x.i = y at *
    generalize encG (x.t.toNat : Int) x.m = g at *
    have hgy : g.length + y.length ≤ 1000000 := by omega
    clear hz hcl hsp hT h0 oi hl
    go_enter Tryz.func43, Tryz.ntmps43
    go_wp2_with (first
      | (go_at_call 84; go_must ((with_reducible refine HR.out.mono ?_); rintro e w1 ⟨rfl, hb⟩; have H1 := Lib.hid (bxG_on H0.out hb); obtain ⟨c0, c1, c2, c3, c4, c5⟩ := H1.out.2; clear hb))
      | (go_at_call 85; go_must ((with_reducible refine (HP.out _ (bxG_bel H1.out)).mono ?_); intro e w2 hq; obtain ⟨v, rfl, hr, hb⟩ := hq; clear c0 c1 c2 c3 c4 c5; obtain ⟨A2, cp2, rfl, hpc⟩ := hr.pc; have HP2 := Lib.hid hpc; have H2 := Lib.hid (bxG_on H1.out hb); obtain ⟨c0, c1, c2, c3, c4, c5⟩ := H2.out.2; clear hb hr hpc))
      | (go_at_call 86; go_must ((with_reducible refine (HE.out _).mono ?_); intro e w3 hq; obtain ⟨v3, rfl, hr, hb⟩ := hq; have H3 := Lib.hid (bxG_on H2.out hb); have HP3 := Lib.hid (HP2.out.below hb); have HR3 := Lib.hid hr; have hz3 := hb.size; clear hb hr c0 c1 c2 c3 c4 c5))
      | (at_builtin; (refine row_any rfl _ _ rfl w2.heap.size _ g rfl HR3.out A2 y.length cp2 _ y rfl rfl HP3.out.lies HP3.out.nil hgy hz3 ?_; intro v4 w4 hr4 hb4; have HR4 := Lib.hid hr4; have HB4 := Lib.hid hb4; clear hr4 hb4)))
    go_ret2
    exact ⟨_, rfl, HR4.out.mono (bxG_bel H2.out).size, (bxG_bel H3.out).trans (HB4.out.mono (bxG_bel H2.out).size)⟩
  · rw [if_neg h0]
    have d0 : (rG x != 0) = true := zb_of (by simpa using h0)
    obtain ⟨z, hz⟩ : ∃ z, z = rG x := ⟨_, rfl⟩
    rw [← hz] at HR d0 ⊢
    clear h0 hz hT oi hl
    go_enter Tryz.func43, Tryz.ntmps43
    go_wp2_with (go_at_call 84; go_must ((with_reducible refine HR.out.mono ?_); rintro e w1 ⟨rfl, hb⟩; have H1 := Lib.hid (bxG_on H0.out hb); clear hb))
    go_ret2
    exact ⟨_, rfl, Row.nil _ _, bxG_bel H1.out⟩
/-- A string that a function makes: nothing old turned. -/
theorem rcount_gl (n : Nat) (w : World) (hn : n ≤ 1000000) : Calls Tryz.prog 15 #[.int .i64 n] w fun e w' => e = .returned (.string (S (lebL n))) ∧ Below w.heap.size w w' := by
  have HC := Lib.hid (fun w => count_any (n : Int) w (by omega) (by omega))
  generalize lebL (n : Int) = y at *
  go_enter Tryz.func15, Tryz.ntmps15
  go_wp2_with (go_at_call 53; go_must ((with_reducible refine (HC.out _).mono ?_); rintro e w1 ⟨rfl, hb⟩; have HB := Lib.hid hb; clear hb))
  go_ret
  exact ⟨rfl, HB.out⟩
set_option maxHeartbeats 8000000 in
theorem rput_gl (x : Gl) (A : Option Addr) (c : Nat) (w : World) (oi : x.i.Ok) (h0 : rG x = 0) :
    Calls Tryz.prog 17 #[glV x A c] w fun e w' => e = .returned (.string (S (gputL x))) ∧ Below w.heap.size w w' := by
  have hz := (rG_zero h0).2
  have H0 := Lib.hid (bxG_start w x A c)
  have hcl := cputL_len oi hz
  have HE := Lib.hid (fun W => refEncG_any x.t.toNat x.m W (by omega) (u8_le _))
  have HP := Lib.hid (fun W => show Calls Tryz.prog 57 #[insV x.i A c] W fun e w' => e = .returned (.string (S (cputL x.i))) ∧ Below W.heap.size W w' from rcput_any x.i A c W oi (cr_zero hz).1 (by rw [cz_nil hz]; intro j v hv; simp [cells32] at hv))
  have he2 : (encG x.t.toNat x.m).length = 2 := rfl
  have hsp : gputL x = encG x.t.toNat x.m ++ cputL x.i := rfl
  rw [hsp]
  generalize cputL x.i = y at *
  generalize encG (x.t.toNat : Int) x.m = g at *
  have sg := S_size g
  have sy := S_size y
  have q1 : ¬ 9223372036854775807 < (S g).size + (S y).size := by omega
  have HSA := Lib.hid (S_append g y)
  clear hz hcl hsp h0 oi sg sy he2
  go_enter Tryz.func17, Tryz.ntmps17
  go_wp2
  go_region_held3 (fun W => BxG w w.heap.size x A c W) (first | assumption | exact bxG_on H0.out (Below.refl _ _).drew)
    (first
      | (go_at_call 56; (with_reducible refine (HE.out _).mono ?_); rintro e w1 ⟨rfl, hb⟩; have hk1 := bxG_on ‹_› hb; clear hb)
      | (go_at_call 57; (with_reducible refine (HP.out _).mono ?_); rintro e w2 ⟨rfl, hb⟩; have hk2 := bxG_on ‹_› hb; clear hb))
  go_wp2
  go_ret
  exact ⟨by rw [← HSA.out]; rfl, bxG_bel hk2⟩
end Go.Proofs.YtebgmfjgapmpfaaGreatDoor

/- Globals that lie somewhere; rows of globals of the call's own. -/
namespace Go.Proofs.YtebgmfjgapmpfaaGreatDoor
open Go.RowKit
set_option linter.unusedVariables false
set_option maxRecDepth 100000

/-- A global and where its labels lie. -/
abbrev SlotG := Gl × Option Addr × Nat
abbrev sC (x : SlotG) : Array Value := glC x.1 x.2.1 x.2.2
abbrev sV (x : SlotG) : Value := .agg (sC x)
def sL (x : SlotG) : List Value := (sC x).toList
theorem infoGl : (Tryz.prog.info? 46).map (fun i => (i.zero, i.size, i.bytes)) = some (some (.agg glZ), 6, 56) := by kernel_rfl
/-- A row of globals of the call's own. -/
def RowG (W : World) (base : Nat) (v : Value) (rows : List SlotG) : Prop := W.ownsRow base 46 6 v rows.length (rows.flatMap sL)
theorem RowG.nil (W : World) (base : Nat) : RowG W base (.slice none 0 0) [] := World.ownsRow_nil W base _ 6
theorem RowG.slice {W : World} {base : Nat} {v : Value} {rows : List SlotG} (h : RowG W base v rows) : ∃ A c, v = .slice A rows.length c := by
  rcases h.2 with ⟨rfl, h0⟩ | ⟨g, cap, cur, rfl, _⟩
  · exact ⟨none, 0, by rw [h0]⟩
  · exact ⟨_, cap, rfl⟩
theorem RowG.past {W W' : World} {base b : Nat} {v : Value} {rows : List SlotG} (h : RowG W base v rows) (hg : W.grownBy W' (some b)) (hb : b < base) : RowG W' base v rows :=
  World.ownsRow.kept h hg (by
    cases hv : v.ownBlock with
    | none => exact .inl rfl
    | some k => exact .inr (by have := (World.ownsRow.lt h k hv).1; simp only [ne_eq, Option.some.injEq]; omega))
theorem RowG.later {W W' : World} {base : Nat} {v : Value} {rows : List SlotG} (h : RowG W base v rows) (hb : Below W.heap.size W W') : RowG W' base v rows :=
  World.ownsRow.kept h (gb_of_below none hb) (by cases v.ownBlock with
    | none => exact .inl rfl
    | some k => exact .inr (by simp))
theorem RowG.alloc {W : World} {base : Nat} {v : Value} {rows : List SlotG} (h : RowG W base v rows) (o : Obj) : RowG (W.alloc o) base v rows := World.ownsRow.alloc h o
theorem RowG.mono {W : World} {base base' : Nat} {v : Value} {rows : List SlotG} (h : RowG W base v rows) (hb : base' ≤ base) : RowG W base' v rows := by
  obtain ⟨h1, h2⟩ := h
  refine ⟨h1, ?_⟩
  rcases h2 with h2 | ⟨g, cap, cur, e, hg, r⟩
  · exact .inl h2
  · exact .inr ⟨g, cap, cur, e, Nat.le_trans hb hg, r⟩
/-- append of a new block of one export. -/
theorem rowG_new {w : World} {ops : Array Oper} {rest : List Oper} {o : Oper} {a : Act} {Q : Exit → Act → World → Prop} (hgd : o.guard = none) (s x : Operand)
    (ho : o.op = .call { callee := .builtin .append, args := #[s, x], argTypes := #[29, 29] })
    (B : Nat) (v : Value) (l : List SlotG) (hs : a.eval s = v) (hr : RowG w B v l) (g : Nat) (r : SlotG) (hx : a.eval x = .slice (some ⟨g, 0, none⟩) 1 1)
    (hg : Whole w g 46 (sC r)) (hb : l.length ≤ 10000) (hB : B ≤ w.heap.size)
    (h : ∀ v' w', RowG w' B v' (l ++ [r]) → w.grownBy w' v.ownBlock → wpList Tryz.prog ops Q rest (a.put o.dst v') w') : wpList Tryz.prog ops Q (o :: rest) a w := by
  obtain ⟨i0, hi0, hz0, hz1, hz2⟩ := info_parts infoGl
  refine wpList_append_own _ hgd s x _ ho B 46 i0 _ 6 56 Tryz.underlying29 hi0 hz0 hz1 hz2 rfl (by omega) v _ _ hs hr ⟨g, 0, none⟩ 1 1 (sL r) hx rfl ?_ ?_ (by unfold maxLen; omega) (by omega) hB (fun v' w' h2 h3 _ => h v' w' ?_ h3)
  · intro j u hu
    rw [Go.WideShapes.add_plain, Nat.zero_add, hg.cell, ← Array.getElem?_toList]
    exact hu
  · intro u hu
    unfold sL at hu
    simp only [List.mem_cons, List.not_mem_nil, or_false] at hu
    rcases hu with rfl | rfl | rfl | rfl | rfl | rfl <;> rfl
  · unfold RowG
    rw [List.length_append, List.flatMap_append]
    simpa using h2
/-- Nothing old has turned, and nothing of the row's own is lost. -/
theorem RowG.below {w W W' : World} {base : Nat} {v : Value} {rows : List SlotG} (h : RowG W base v rows) (hB : base ≤ W.heap.size) (hg : W.grownBy W' v.ownBlock) : Below base W W' :=
  Below.grown (Below.refl _ _) hg hB (fun k hk => (World.ownsRow.lt h k hk).1)

/-- The slice at A reads as these globals. -/
def Gs (w : World) (A : Option Addr) (l : List SlotG) : Prop :=
  ∀ j x, l[j]? = some x → ∃ b off, A = some ⟨b, off, none⟩ ∧ b < w.heap.size ∧ ∀ u, u < 6 → w.cell? ⟨b, off + j * 6 + u, none⟩ = (sL x)[u]?
theorem Gs.below {w w' : World} {A : Option Addr} {l : List SlotG} (h : Gs w A l) (hb : Below w.heap.size w w') : Gs w' A l := fun j x hx => by
  obtain ⟨b, off, e, h1, h2⟩ := h j x hx
  exact ⟨b, off, e, Nat.lt_of_lt_of_le h1 hb.size, fun u hu => (hb.cell (p := ⟨b, _, none⟩) h1).trans (h2 u hu)⟩
/-- The six cells of one of them, as a walk writes them. -/
abbrev SixAt (w : World) (b : Nat) (o : Nat) (x : SlotG) : Prop := w.cell? ⟨b, o, none⟩ = some (.int .u8 x.1.t.toNat) ∧ w.cell? ⟨b, o + 1, none⟩ = some (.bool x.1.m) ∧ w.cell? ⟨b, o + 2, none⟩ = some (.int .u8 x.1.i.op.toNat) ∧ w.cell? ⟨b, o + 3, none⟩ = some (.int .u64 x.1.i.a) ∧ w.cell? ⟨b, o + 4, none⟩ = some (.int .u64 x.1.i.b) ∧ w.cell? ⟨b, o + 5, none⟩ = some (.slice x.2.1 x.1.i.l.length x.2.2)
theorem Gs.six {w : World} {A : Option Addr} {l : List SlotG} (h : Gs w A l) {k : Nat} {x : SlotG} (hx : l[k]? = some x) : ∃ b off, A = some ⟨b, off, none⟩ ∧ b < w.heap.size ∧ SixAt w b (off + k * 6) x := by
  obtain ⟨b, off, e, h1, h2⟩ := h k x hx
  exact ⟨b, off, e, h1, h2 0 (by omega), h2 1 (by omega), h2 2 (by omega), h2 3 (by omega), h2 4 (by omega), h2 5 (by omega)⟩
theorem flatG_get : ∀ (l : List SlotG) (j : Nat) (x : SlotG) (u : Nat), l[j]? = some x → u < 6 → (l.flatMap sL)[j * 6 + u]? = (sL x)[u]?
  | [], j, x, u, h, _ => by cases h
  | y :: l, 0, x, u, h, hu => by
    injection h with h
    subst h
    rw [List.flatMap_cons, Nat.zero_mul, Nat.zero_add, List.getElem?_append_left (by show u < 6; exact hu)]
  | y :: l, j + 1, x, u, h, hu => by
    rw [List.flatMap_cons, List.getElem?_append_right (by show 6 ≤ _; omega)]
    have e : (j + 1) * 6 + u - (sL y).length = j * 6 + u := by show (j + 1) * 6 + u - 6 = _; omega
    rw [e]
    exact flatG_get l j x u h hu
/-- What a row of globals reads as. -/
theorem RowG.gs {W : World} {base : Nat} {A : Option Addr} {n c : Nat} {rows : List SlotG} (h : RowG W base (.slice A n c) rows) : Gs W A rows := fun j x hx => by
  have hj := (List.getElem?_eq_some_iff.1 hx).1
  rcases h.2 with ⟨_, h0⟩ | ⟨g, cap, cur, e, _, hg, _, _, _, ht⟩
  · omega
  · injection e with e1 e2 e3
    exact ⟨g, 0, e1, (Array.getElem?_eq_some_iff.1 hg).1, fun u hu => by
      rw [cell_of_row W g (0 + j * 6 + u) cur _ _ hg, ← flatG_get rows j x u hx hu, ← ht, List.getElem?_take, if_pos (by omega)]
      simp⟩
end Go.Proofs.YtebgmfjgapmpfaaGreatDoor

/- globals.PutAll. -/
namespace Go.Proofs.YtebgmfjgapmpfaaGreatDoor
open Go.RowKit
set_option linter.unusedVariables false
set_option maxRecDepth 100000

/-- May it be? Its bytes. -/
def rS (x : SlotG) : Int := rG x.1
noncomputable def sputL (x : SlotG) : List UInt8 := gputL x.1
def PuttedS (x : SlotG) (w : World) (e : Ending) (w' : World) : Prop := ∃ v, e = .returned (.tuple #[v, .int .i64 (rS x)]) ∧ Row w' w.heap.size v (if rS x = 0 then sputL x else []) ∧ Below w.heap.size w w'
/-- The numbers are what their kinds hold. -/
def OkG (l : List SlotG) : Prop := ∀ x ∈ l, x.1.i.Ok ∧ (x.1.i.l.length : Int) ≤ 9223372036854775807
theorem put_s (x : SlotG) (w : World) (hT : Tabs w) (h : x.1.i.Ok ∧ (x.1.i.l.length : Int) ≤ 9223372036854775807) : Calls Tryz.prog 43 #[sV x] w (PuttedS x w) := put_gl x.1 x.2.1 x.2.2 w h.1 hT h.2
theorem sputL_len {x : SlotG} (h : x.1.i.Ok ∧ (x.1.i.l.length : Int) ≤ 9223372036854775807) (h0 : rS x = 0) : 3 ≤ (sputL x).length ∧ (sputL x).length ≤ 34 := gputL_len h.1 h0
/-- The first error. -/
def errG : List SlotG → Int
  | [] => 0
  | x :: r => if rS x ≠ 0 then rS x else errG r
theorem errG_app : ∀ a b : List SlotG, errG (a ++ b) = if errG a ≠ 0 then errG a else errG b
  | [], b => by simp [errG]
  | x :: a, b => by
    simp only [List.cons_append, errG]
    by_cases h : rS x = 0
    · simp only [h, ne_eq, not_true_eq_false, if_false, errG_app a b]
    · simp [h]
theorem errG_snoc {l : List SlotG} {k : Nat} {x : SlotG} (h : l[k]? = some x) : errG (l.take (k + 1)) = if errG (l.take k) ≠ 0 then errG (l.take k) else rS x := by
  rw [List.take_add_one, h]
  show errG (l.take k ++ [x]) = _
  rw [errG_app]
  by_cases e : rS x = 0 <;> simp [errG, e]
theorem errG_bad {l : List SlotG} {k : Nat} (h : errG (l.take k) ≠ 0) : errG l = errG (l.take k) := by
  conv => lhs; rw [← List.take_append_drop k l]
  rw [errG_app, if_pos h]
theorem errG_mem : ∀ {l : List SlotG}, errG l = 0 → ∀ x ∈ l, rS x = 0
  | [], _, x, hx => by cases hx
  | y :: l, h, x, hx => by
    simp only [errG] at h
    by_cases e : rS y = 0
    · simp only [e, ne_eq, not_true_eq_false, if_false] at h
      rcases List.mem_cons.1 hx with rfl | hx
      · exact e
      · exact errG_mem h x hx
    · simp [e] at h
/-- Many globals' bytes. -/
noncomputable def gputsL (l : List SlotG) : List UInt8 := l.flatMap sputL
theorem gputsL_snoc {l : List SlotG} {k : Nat} {x : SlotG} (h : l[k]? = some x) : gputsL (l.take (k + 1)) = gputsL (l.take k) ++ sputL x := by
  unfold gputsL
  rw [List.take_add_one, h, List.flatMap_append]
  simp
theorem gputsL_len : ∀ {l : List SlotG}, OkG l → errG l = 0 → (gputsL l).length ≤ l.length * 34
  | [], _, _ => by simp [gputsL]
  | x :: r, h, h0 => by
    have h4 := errG_mem h0 x (by simp)
    have h5 : errG r = 0 := by simpa [errG, h4] using h0
    have h1 := gputsL_len (l := r) (fun y hy => h y (List.mem_cons_of_mem _ hy)) h5
    have h2 := h x (by simp)
    have h3 := (sputL_len h2 h4).2
    unfold gputsL at h1 ⊢
    rw [List.flatMap_cons, List.length_append, List.length_cons]
    omega
noncomputable def allG (l : List SlotG) : List UInt8 := lebL l.length ++ gputsL l
/-- What PutAll hands back. -/
def PuttedAllG (l : List SlotG) (w : World) (e : Ending) (w' : World) : Prop := ∃ v, e = .returned (.tuple #[v, .int .i64 (errG l)]) ∧ Row w' w.heap.size v (if errG l = 0 then allG l else []) ∧ Below w.heap.size w w'
theorem cfGP (a : Array Value) (w : World) : (callFunc 43 a).run Tryz.prog w = .ok (.enter 43 a) w := by kernel_rfl
set_option maxHeartbeats 4000000 in
theorem wputall_gl {w : World} {A : Option Addr} {c : Nat} {l : List SlotG} (hl : Gs w A l) (hT : Tabs w) (hs : OkG l) (h20 : l.length ≤ 1000) :
    Calls Tryz.prog 58 #[.slice A l.length c, .func (.func 43) #[] #[]] w (PuttedAllG l w) := by
  have HL := Lib.hid hl
  have HTb := Lib.hid hT
  have HSh := Lib.hid hs
  have hlb := lebL_len (l.length : Int) (by omega)
  have HZ := Lib.hid (fun W => size_w l.length W (by omega))
  obtain ⟨n, hn⟩ : ∃ n, n = l.length := ⟨_, rfl⟩
  obtain ⟨hd, hhd⟩ : ∃ hd, hd = lebL (l.length : Int) := ⟨_, rfl⟩
  rw [← hhd] at HZ hlb
  have HN := Lib.hid hn
  have HE := Lib.hid (show l.take n = l by rw [hn, List.take_length])
  have HAL := Lib.hid (show allG l = hd ++ gputsL l by rw [hhd]; rfl)
  have HPL := Lib.hid (fun k (h : errG (l.take k) = 0) => show (gputsL (l.take k)).length ≤ 1000 * 34 from by
    have h1 := gputsL_len (l := l.take k) (fun y hy => hs y (List.mem_of_mem_take hy)) h
    have h2 : (l.take k).length ≤ l.length := by rw [List.length_take]; omega
    omega)
  rw [← hn] at h20 HZ ⊢
  have d10 : decide ((10000 : Int) < (n : Int)) = false := decide_eq_false (by omega)
  have hcf := cfGP
  clear hl hT hs hn hhd
  go_enter Tryz.func58, Tryz.ntmps58
  go_wp2_with (go_at_call 99; go_must ((with_reducible refine (HZ.out _).mono ?_); intro e w1 h; obtain ⟨v, rfl, hr, hb⟩ := h; have HR := Lib.hid hr; have HB := Lib.hid hb; clear hr hb))
  go_loopw [6, 19] (fun v i wr => ∃ k : Nat, k ≤ n ∧ i = .int .i64 k ∧ errG (l.take k) = 0 ∧ Row wr w.heap.size v (hd ++ gputsL (l.take k)) ∧ Below w.heap.size w wr) (fun _ i _ => n - (intOf i).toNat)
  case atStart => exact ⟨0, Nat.zero_le _, rfl, rfl, by simpa [gputsL] using HR.out, HB.out⟩
  case round =>
    obtain ⟨k, hk, rfl, he, hr, hb⟩ := hrel
    have hz1 := hb.size
    by_cases hlt : k < n
    · obtain ⟨x, hx⟩ : ∃ x, l[k]? = some x := ⟨_, List.getElem?_eq_getElem (by rw [← HN.out]; exact hlt)⟩
      obtain ⟨b, off, rfl, hbl, m0, m1, m2, m3, m4, m5⟩ := (HL.out.below hb).six hx
      have hxs := HSh.out x (List.mem_of_getElem? hx)
      have hTk := errG_snoc hx
      have hPk := gputsL_snoc hx
      have HB2 := Lib.hid (hb.alloc hz1 (.cells (sC x) 46))
      have HR2 := Lib.hid (hr.alloc (.cells (sC x) 46))
      have HP := Lib.hid (put_s x (wr.alloc (.cells (sC x) 46)) (HTb.out.below HB2.out) hxs)
      have hzb : wr.heap.size ≤ (wr.alloc (.cells (sC x) 46)).heap.size := (below_box wr _).size
      rw [he] at hTk
      simp only [ne_eq, not_true_eq_false, if_false] at hTk
      unfold PuttedS at HP
      have HTk := Lib.hid hTk
      have HPk := Lib.hid hPk
      by_cases z0 : rS x = 0
      · rw [if_pos z0, z0] at HP
        have hil := sputL_len hxs z0
        have hsz : (hd ++ gputsL (l.take k)).length + (sputL x).length ≤ 1000000 := by
          have hpl := HPL.out k he
          rw [List.length_append]
          omega
        have HIL := Lib.hid hil
        have HSZ := Lib.hid hsz
        obtain ⟨y, hy⟩ : ∃ y, y = sputL x := ⟨_, rfl⟩
        rw [← hy] at HP HPk HIL HSZ
        have HZ0 := Lib.hid z0
        clear hTk hPk he hr hb z0 hil hsz hy hxs
        go_wp2_with (first
          | (go_at_call 43; go_must ((with_reducible refine HP.out.mono ?_); intro e w3 h; obtain ⟨v3, rfl, hr3, hb3⟩ := h; obtain ⟨A3, c3, rfl, hp3⟩ := hr3.pc; have HP3 := Lib.hid hp3; have HR3 := Lib.hid (HR2.out.later hb3); have HB3 := Lib.hid (HB2.out.trans (hb3.mono HB2.out.size)); have hz3 := HB3.out.size; clear hr3 hb3 hp3))
          | (at_builtin; (refine row_any rfl _ _ rfl w.heap.size _ (hd ++ gputsL (l.take k)) rfl HR3.out A3 y.length c3 w3.heap.size y rfl rfl HP3.out.lies HP3.out.nil HSZ.out hz3 ?_; intro v4 w4 hr4 hb4; have HR4 := Lib.hid hr4; have HB4 := Lib.hid hb4; clear hr4 hb4)))
        go_roundw
        case rel => exact ⟨k + 1, by omega, by go_num, by rw [HTk.out]; exact HZ0.out, by rw [HPk.out, ← List.append_assoc]; exact HR4.out, HB3.out.trans HB4.out⟩
        case measure => simp [intOf]; omega
      · rw [if_neg z0] at HP
        have hbad := errG_bad (l := l) (k := k + 1) (by rw [hTk]; exact z0)
        rw [hTk] at hbad
        have HBAD := Lib.hid hbad
        have dz : (rS x != 0) = true := zb_of (by simpa using z0)
        have HZ0 := Lib.hid (show ¬ errG l = 0 by rw [hbad]; exact z0)
        clear hTk hPk he hr hb z0 hbad hxs
        generalize rS x = z at *
        go_wp2_with (go_at_call 43; go_must ((with_reducible refine HP.out.mono ?_); intro e w3 h; obtain ⟨v3, rfl, hr3, hb3⟩ := h; have HB3 := Lib.hid (HB2.out.trans (hb3.mono HB2.out.size)); clear hr3 hb3))
        go_ret2
        exact ⟨_, ret_pair HBAD.out.symm, by rw [if_neg HZ0.out]; exact Row.nil _ _, HB3.out⟩
    · obtain rfl : k = n := by omega
      rw [HE.out] at he
      rw [HE.out] at hr
      have HE2 := Lib.hid he
      have HR2 := Lib.hid hr
      have HB2 := Lib.hid hb
      clear hr hb he
      go_wp2
      go_ret2
      exact ⟨_, ret_pair HE2.out.symm, by rw [if_pos HE2.out, HAL.out]; exact HR2.out, HB2.out⟩
theorem putall_gl {w : World} {A : Option Addr} {c : Nat} {l : List SlotG} (hl : Gs w A l) (hT : Tabs w) (hs : OkG l) (h20 : l.length ≤ 1000) :
    Calls Tryz.prog 18 #[.slice A l.length c] w (PuttedAllG l w) := by
  have HP := Lib.hid (wputall_gl (c := c) hl hT hs h20)
  unfold PuttedAllG at HP
  clear hl hT hs h20
  go_enter Tryz.func18, Tryz.ntmps18
  go_wp2_with (go_at_call 58; go_must ((with_reducible refine HP.out.mono ?_); intro e w1 h; obtain ⟨v, rfl, hr, hb⟩ := h; have HR := Lib.hid hr; have HB := Lib.hid hb; clear hr hb))
  go_ret2
  exact ⟨_, rfl, HR.out, HB.out⟩
end Go.Proofs.YtebgmfjgapmpfaaGreatDoor

/- globals.GetAll of any bytes; the laws' closures. -/
namespace Go.Proofs.YtebgmfjgapmpfaaGreatDoor
open Go.RowKit
set_option linter.unusedVariables false
set_option maxRecDepth 100000

/-- Globals, one behind the other, behind those that are read. -/
noncomputable def gsK (l : List UInt8) : Nat → Nat → List Gl → Res (List Gl)
  | 0, q, acc => .ok acc q
  | n + 1, q, acc => (gR l q).bind fun x q2 => gsK l n q2 (acc ++ [x])
theorem gsK_more {l : List UInt8} {n j q : Nat} {acc : List Gl} (h : j < n) : gsK l (n - j) q acc = (gR l q).bind fun x q2 => gsK l (n - (j + 1)) q2 (acc ++ [x]) := by
  rw [show n - j = n - (j + 1) + 1 by omega]; rfl
/-- A list, and its end. -/
noncomputable def allR (l : List UInt8) (k : Nat) : Res (List Gl) := (countR l k).bind fun n k1 => (gsK l n.toNat k1 []).bind fun xs k2 => if k2 < l.length then .err 14 k2 else .ok xs k2
/-- Without its end. -/
noncomputable def itR (l : List UInt8) (k : Nat) : Res (List Gl) := (countR l k).bind fun n k1 => gsK l n.toNat k1 []
theorem itR_end (l : List UInt8) (k : Nat) : allR l k = (itR l k).bind fun xs k2 => if k2 < l.length then .err 14 k2 else .ok xs k2 := by
  unfold allR itR
  cases countR l k with
  | err c a => rw [Res.bind_err, Res.bind_err, Res.bind_err]
  | ok n k1 => rw [Res.bind_ok, Res.bind_ok]
/-- What holds at the head of GetAll's loop. -/
structure AInG (w : World) (p : Nat) (l : List UInt8) (k : Nat) (xs : List SlotG) (v : Value) (W : World) : Prop where
  sc : Sc W p l k
  g : w.grownBy W (some p)
  r : RowG W w.heap.size v xs
  tb : TbP p W
section
variable {w W W' : World} {p : Nat} {l : List UInt8} {k k' : Nat} {xs : List SlotG} {x : SlotG} {v v' : Value}
theorem AInG.step (h : AInG w p l k xs v W) (hp : p < w.heap.size) (hg : W.grownBy W' (some p)) (hs : Sc W' p l k') : AInG w p l k' xs v W' :=
  ⟨hs, gb_trans h.g hg, h.r.past hg hp, h.tb.self hg⟩
theorem AInG.alloc (h : AInG w p l k xs v W) (hp : p < w.heap.size) (o : Obj) : AInG w p l k xs v (W.alloc o) := h.step hp (gb_alloc (gb_refl _ _) o) (h.sc.alloc o)
theorem AInG.more (h : AInG w p l k xs v W) (hp : p < w.heap.size) (hg : W.grownBy W' v.ownBlock) (hr : RowG W' w.heap.size v' (xs ++ [x])) : AInG w p l k (xs ++ [x]) v' W' := by
  have hlt := World.ownsRow.lt h.r
  exact ⟨h.sc.grown hg (fun e => by have := hlt p e.symm; omega) (fun g e => by have := hlt g e; omega), gb_before h.g hg (fun g e => .inr (hlt g e).1), hr, h.tb.grown hg (fun g e => by have := hlt g e; omega)⟩
end
/-- The list that was read. -/
def GotAllG (p : Nat) (l : List UInt8) (r : Res (List Gl)) (w : World) (e : Ending) (w' : World) : Prop := match r with
  | .ok xs k => ∃ v rows, e = .returned v ∧ RowG w' w.heap.size v rows ∧ rows.map (·.1) = xs ∧ Sc w' p l k ∧ w.grownBy w' (some p)
  | .err c a => e = .panicked (stopP c a) ∧ w.grownBy w' (some p)
theorem cfGG (a : Array Value) (w : World) : (callFunc 48 a).run Tryz.prog w = .ok (.enter 48 a) w := by kernel_rfl
set_option maxHeartbeats 4000000 in
theorem wgetitems_gl {w : World} {p : Nat} {l : List UInt8} {k0 : Nat} (h : Sc w p l k0) (hT : TbP p w) :
    Calls Tryz.prog 90 #[.pointer (some ⟨p, 0, none⟩), .func (.func 48) #[] #[]] w (GotAllG p l (itR l k0) w) := by
  have hp := h.lt
  have hc := count_scan h
  have HT := Lib.hid hT
  have hcf := cfGG
  unfold itR
  cases hr : countR l k0 with
  | err c a =>
    rw [hr] at hc
    rw [Res.bind_err]
    have HC := Lib.hid hc
    clear h hT hc hr
    go_enter Tryz.func90, Tryz.ntmps90
    go_wp2_with (go_at_call 116; go_must ((with_reducible refine HC.out.mono ?_); rintro e w1 ⟨rfl, hg⟩; have HG := Lib.hid hg; clear hg))
    exact ⟨rfl, rfl, HG.out⟩
  | ok c k1 =>
    rw [hr] at hc
    rw [Res.bind_ok]
    obtain ⟨v0, v1⟩ := countR_ok hr
    obtain ⟨n, rfl⟩ : ∃ n : Nat, c = n := ⟨c.toNat, by omega⟩
    rw [Int.toNat_natCast]
    have HC := Lib.hid hc
    obtain ⟨R, hR⟩ : ∃ R, R = gsK l n k1 [] := ⟨_, rfl⟩
    rw [← hR]
    have HR := Lib.hid hR
    clear h hT hc hr hR
    go_enter Tryz.func90, Tryz.ntmps90
    go_wp2_with (go_at_call 116; go_must ((with_reducible refine HC.out.mono ?_); rintro e w1 ⟨rfl, hs, hg⟩; have HS := Lib.hid hs; have HG := Lib.hid hg; clear hs hg))
    go_loopw [5, 8] (fun v i wr => ∃ (j k : Nat) (rows : List SlotG), j ≤ n ∧ i = .int .i64 j ∧ rows.length = j ∧ AInG w p l k rows v wr ∧ gsK l (n - j) k (rows.map (·.1)) = R) (fun _ i _ => n - (intOf i).toNat)
    case atStart => exact ⟨0, k1, [], Nat.zero_le _, rfl, rfl, ⟨HS.out, HG.out, RowG.nil _ _, HT.out.self HG.out⟩, HR.out.symm⟩
    case round =>
      obtain ⟨j, k, rows, hj, rfl, hlen, ha, hgs⟩ := hrel
      by_cases hlt : j < n
      · rw [gsK_more hlt] at hgs
        have hG := get_gl ha.sc ha.tb
        cases hg1 : gR l k with
        | err c a =>
          rw [hg1] at hG hgs
          rw [Res.bind_err] at hgs
          have HGe := Lib.hid hG
          have HA := Lib.hid ha
          have HRE := Lib.hid (show R = .err c a from hgs.symm)
          clear ha hG hg1 hlen hgs
          go_wp2_with (go_at_call 48; go_must ((with_reducible refine HGe.out.mono ?_); rintro e w2 ⟨rfl, hg⟩; have HG2 := Lib.hid hg; clear hg))
          exact ⟨rfl, by rw [HRE.out]; exact ⟨rfl, gb_trans HA.out.g HG2.out⟩⟩
        | ok x k2 =>
          rw [hg1] at hG hgs
          rw [Res.bind_ok] at hgs
          have HGe := Lib.hid (show Calls Tryz.prog 48 #[.pointer (some ⟨p, 0, none⟩)] wr (fun e w' => ∃ A c, e = .returned (glV x A c) ∧ Sc w' p l k2 ∧ wr.grownBy w' (some p)) from hG)
          have HA := Lib.hid ha
          have HGS := Lib.hid hgs
          have hle : rows.length ≤ 10000 := by omega
          have HLEN := Lib.hid hlen
          clear ha hG hg1 hgs hlen
          go_wp2_with (first
            | (go_at_call 48; go_must ((with_reducible refine HGe.out.mono ?_); intro e w2 hq; obtain ⟨A, c, rfl, hs, hg⟩ := hq; have HA2 := Lib.hid (HA.out.step hp hg hs); have hz2 := HA2.out.g.size; have HX := Lib.hid (Whole.made w2 46 (sC (x, A, c))); clear hs hg))
            | (at_builtin; (refine rowG_new rfl _ _ rfl w.heap.size _ rows rfl (HA2.out.alloc hp _).r w2.heap.size (x, A, c) rfl HX.out hle (Nat.le_trans hz2 (below_box w2 _).size) ?_; intro v3 w3 hr3 hg3; have HA3 := Lib.hid ((HA2.out.alloc hp _).more hp hg3 hr3); clear hr3 hg3)))
          go_roundw
          case rel => exact ⟨j + 1, k2, rows ++ [(x, A, c)], by omega, by go_num, by rw [List.length_append, HLEN.out, List.length_singleton], HA3.out, by rw [List.map_append]; exact HGS.out⟩
          case measure => simp [intOf]; omega
      · obtain rfl : j = n := by omega
        rw [Nat.sub_self] at hgs
        have HA := Lib.hid ha
        have HRE := Lib.hid (show R = .ok (rows.map (·.1)) k from hgs.symm)
        clear ha hgs
        go_wp2
        go_ret
        rw [HRE.out]
        exact ⟨_, rows, rfl, HA.out.r, rfl, HA.out.sc, HA.out.g⟩
theorem wgetall_gl {w : World} {p : Nat} {l : List UInt8} {k0 : Nat} (h : Sc w p l k0) (hT : TbP p w) :
    Calls Tryz.prog 47 #[.pointer (some ⟨p, 0, none⟩), .func (.func 48) #[] #[]] w (GotAllG p l (allR l k0) w) := by
  have hp := h.lt
  have HI := wgetitems_gl h hT
  rw [itR_end]
  clear h hT
  cases hr : itR l k0 with
  | err c a =>
    rw [hr] at HI
    rw [Res.bind_err]
    have HI := Lib.hid HI
    clear hr
    go_enter Tryz.func47, Tryz.ntmps47
    go_wp2_with (go_at_call 90; go_must ((with_reducible refine HI.out.mono ?_); rintro e w1 ⟨rfl, hg⟩; have HG := Lib.hid hg; clear hg))
    exact ⟨rfl, rfl, HG.out⟩
  | ok xs k =>
    rw [hr] at HI
    rw [Res.bind_ok]
    have HI := Lib.hid (show Calls Tryz.prog 90 _ w (fun e w' => ∃ v rows, e = .returned v ∧ RowG w' w.heap.size v rows ∧ rows.map (·.1) = xs ∧ Sc w' p l k ∧ w.grownBy w' (some p)) from HI)
    clear hr
    by_cases hk : k < l.length
    · rw [if_pos hk]
      have HEn := Lib.hid (fun W (hs : Sc W p l k) => end_bad hs hk)
      clear hk
      go_enter Tryz.func47, Tryz.ntmps47
      go_wp2_with (first
        | (go_at_call 90; go_must ((with_reducible refine HI.out.mono ?_); intro e w1 hq; obtain ⟨v, rows, rfl, hr, hm, hs, hg⟩ := hq; have HS := Lib.hid hs; have HG := Lib.hid hg; clear hr hs hg hm))
        | (go_at_call 91; go_must ((with_reducible refine (HEn.out _ HS.out).mono ?_); rintro e w2 ⟨rfl, hg⟩; have HG2 := Lib.hid hg; clear hg)))
      exact ⟨rfl, rfl, gb_trans HG.out HG2.out⟩
    · rw [if_neg hk]
      have HEn := Lib.hid (fun W (hs : Sc W p l k) => show Calls Tryz.prog 91 #[.pointer (some ⟨p, 0, none⟩)] W (fun e w' => e = .returned (.tuple #[]) ∧ ∃ m, w' = W.drewN m) from by
        have hle := hs.le.1
        obtain rfl : k = l.length := by omega
        exact end_ok hs)
      clear hk
      go_enter Tryz.func47, Tryz.ntmps47
      go_wp2_with (first
        | (go_at_call 90; go_must ((with_reducible refine HI.out.mono ?_); intro e w1 hq; obtain ⟨v, rows, rfl, hr, hm, hs, hg⟩ := hq; have HR := Lib.hid hr; have HM := Lib.hid hm; have HS := Lib.hid hs; have HG := Lib.hid hg; clear hr hs hg hm))
        | (go_at_call 91; go_must ((with_reducible refine (HEn.out _ HS.out).mono ?_); rintro e w2 ⟨rfl, m, rfl⟩)))
      go_ret
      exact ⟨_, rows, rfl, HR.out.past (gb_drewN (gb_refl _ (some p)) m) hp, HM.out, HS.out.drewN m, gb_trans HG.out (gb_drewN (gb_refl _ _) m)⟩
theorem getall_gl {w : World} {p : Nat} {l : List UInt8} {k0 : Nat} (h : Sc w p l k0) (hT : TbP p w) :
    Calls Tryz.prog 12 #[.pointer (some ⟨p, 0, none⟩)] w (GotAllG p l (allR l k0) w) := by
  have HP := wgetall_gl h hT
  clear h hT
  cases hr : allR l k0 with
  | err c a =>
    rw [hr] at HP
    have HP := Lib.hid HP
    clear hr
    go_enter Tryz.func12, Tryz.ntmps12
    go_wp2_with (go_at_call 47; go_must ((with_reducible refine HP.out.mono ?_); rintro e w1 ⟨rfl, hg⟩; have HG := Lib.hid hg; clear hg))
    exact ⟨rfl, rfl, HG.out⟩
  | ok xs k =>
    rw [hr] at HP
    have HP := Lib.hid (show Calls Tryz.prog 47 #[.pointer (some ⟨p, 0, none⟩), .func (.func 48) #[] #[]] w (fun e w' => ∃ v rows, e = .returned v ∧ RowG w' w.heap.size v rows ∧ rows.map (·.1) = xs ∧ Sc w' p l k ∧ w.grownBy w' (some p)) from HP)
    clear hr
    go_enter Tryz.func12, Tryz.ntmps12
    go_wp2_with (go_at_call 47; go_must ((with_reducible refine HP.out.mono ?_); intro e w1 hq; obtain ⟨v, rows, rfl, hr, hm, hs, hg⟩ := hq; have HR := Lib.hid hr; have HS := Lib.hid hs; have HG := Lib.hid hg; have HM := Lib.hid hm; clear hr hs hg hm))
    go_ret
    exact ⟨_, rows, rfl, HR.out, HM.out, HS.out, HG.out⟩
end Go.Proofs.YtebgmfjgapmpfaaGreatDoor

/- slices.Equal of labels; instr.Same; the reference's Same. -/
namespace Go.Proofs.YtebgmfjgapmpfaaGreatDoor
open Go.RowKit
set_option linter.unusedVariables false
set_option maxRecDepth 100000

def LiesL (w : World) (A : Option Addr) (l : List Int) : Prop := Lies w w.heap.size A (cells32 l)
theorem LiesL.below {w w' : World} {A : Option Addr} {l : List Int} (h : LiesL w A l) (hb : Below w.heap.size w w') : LiesL w' A l := (Lies.below h hb (Nat.le_refl _)).more hb.size
theorem LiesL.at {w : World} {A : Option Addr} {l : List Int} (h : LiesL w A l) {i : Nat} {d : Int} (hd : l[i]? = some d) : ∃ b off, A = some ⟨b, off, none⟩ ∧ b < w.heap.size ∧ w.cell? ⟨b, off + i, none⟩ = some (.int .u32 d) := by
  obtain ⟨b, off, e, hb, hc⟩ := h i _ (cells32_get hd)
  exact ⟨b, off, e, hb, hc⟩
/-- The first k of two lists are the same. -/
def Eqs (a b : List Int) (k : Nat) : Prop := ∀ j, j < k → a[j]? = b[j]?
theorem Eqs.all {a b : List Int} {n : Nat} (h : Eqs a b n) (ha : a.length = n) (hb : b.length = n) : a = b := by
  apply List.ext_getElem?
  intro j
  rcases Nat.lt_or_ge j n with g | g
  · exact h j g
  · rw [List.getElem?_eq_none (by omega), List.getElem?_eq_none (by omega)]
def BoolPost (p : Bool) (w : World) (e : Ending) (w' : World) : Prop := e = .returned (.bool p) ∧ Below w.heap.size w w'
/-- Are two instructions the same? -/
def sameZ (i k : I) : Bool := decide (i.op = k.op) && decide (i.a = k.a) && decide (i.b = k.b) && decide (i.l = k.l)
theorem below_twoI (w : World) (i k : I) (A B : Option Addr) (c d : Nat) : Below w.heap.size w ((w.alloc (.cells (insC i A c) 44)).alloc (.cells (insC k B d) 44)) := (below_box w _).alloc (by simp) _
theorem same_no {i k : I} {w W : World} (h : ¬ (i.op = k.op ∧ i.a = k.a ∧ i.b = k.b ∧ i.l = k.l)) (hb : Below w.heap.size w W) : BoolPost (sameZ i k) w (.returned (.bool false)) W := by
  refine ⟨ret_bool ?_, hb⟩
  unfold sameZ
  by_cases h1 : i.op = k.op
  · by_cases h2 : i.a = k.a
    · by_cases h3 : i.b = k.b
      · have h4 : ¬ i.l = k.l := fun e => h ⟨h1, h2, h3, e⟩
        simp [h4]
      · simp [h3]
    · simp [h2]
  · simp [h1]
theorem op_ne {a b : UInt8} (h : a ≠ b) : ((a.toNat : Int) == b.toNat) = false := by
  simp
  intro e
  exact h (UInt8.toNat_inj.1 (by omega))
theorem op_eq (a : UInt8) : ((a.toNat : Int) == a.toNat) = true := by simp
set_option maxHeartbeats 2000000 in
theorem refSame_any {w : World} {A B : Option Addr} {c d : Nat} {i k : I} (ha : LiesL w A i.l) (hb : LiesL w B k.l) (na : i.l.length ≤ 100000) (nb : k.l.length ≤ 100000) :
    Calls Tryz.prog 52 #[insV i A c, insV k B d] w (BoolPost (sameZ i k) w) := by
  have HB2 := Lib.hid (below_twoI w i k A B c d)
  have HA := Lib.hid (ha.below HB2.out)
  have HB := Lib.hid (hb.below HB2.out)
  clear ha hb
  by_cases h1 : i.op = k.op
  · have d1 : ((i.op.toNat : Int) != k.op.toNat) = false := by rw [h1]; simp
    by_cases h2 : i.a = k.a
    · have d2 : (i.a != k.a) = false := by simpa using h2
      by_cases h3 : i.b = k.b
      · have d3 : (i.b != k.b) = false := by simpa using h3
        have HE := Lib.hid (show sameZ i k = decide (i.l = k.l) by unfold sameZ; simp [h1, h2, h3])
        by_cases h4 : i.l.length = k.l.length
        · have d4 : ((i.l.length : Int) != k.l.length) = false := by rw [h4]; simp
          have HL := Lib.hid h4
          clear h1 h2 h3 h4
          go_enter Tryz.func52, Tryz.ntmps52
          go_wp2
          generalize hW : ((w.alloc (.cells (insC i A c) 44)).alloc (.cells (insC k B d) 44)) = W at *
          have x3 : W.cell? ⟨w.heap.size, 3, none⟩ = some (.slice A i.l.length c) := by rw [← hW]; exact ((Whole.made w 44 (insC i A c)).alloc _).cell 3
          have y3 : W.cell? ⟨w.heap.size + 1, 3, none⟩ = some (.slice B k.l.length d) := by
            rw [← hW]
            have := Whole.made (w.alloc (.cells (insC i A c) 44)) 44 (insC k B d)
            rw [size_box] at this
            exact this.cell 3
          clear hW
          go_loopw [5] (fun s wr => ∃ j q : Nat, j ≤ i.l.length ∧ s = .int .i64 j ∧ wr = W.drewN q ∧ Eqs i.l k.l j) (fun s _ => i.l.length - (intOf s).toNat)
          case atStart => exact ⟨0, 0, Nat.zero_le _, rfl, rfl, fun j hj => absurd hj (Nat.not_lt_zero _)⟩
          case round =>
            obtain ⟨j, q, hj, rfl, rfl, heq⟩ := hrel
            by_cases hlt : j < i.l.length
            · obtain ⟨x, hx⟩ : ∃ x, i.l[j]? = some x := ⟨_, List.getElem?_eq_getElem hlt⟩
              obtain ⟨y, hy⟩ : ∃ y, k.l[j]? = some y := ⟨_, List.getElem?_eq_getElem (by rw [← HL.out]; exact hlt)⟩
              obtain ⟨b1, o1, rfl, _, g1⟩ := HA.out.at hx
              obtain ⟨b2, o2, rfl, _, g2⟩ := HB.out.at hy
              have hlt2 : j < k.l.length := by rw [← HL.out]; exact hlt
              have HE2 := Lib.hid heq
              have HX := Lib.hid hx
              have HY := Lib.hid hy
              clear heq hx hy
              by_cases hxy : x = y
              · have HXY := Lib.hid hxy
                have hc : (x != y) = false := by simpa using hxy
                clear hxy
                go_wp2_with fail
                go_region
                go_wp2
                go_roundw
                case measure => simp [intOf]; omega
                case rel =>
                  refine ⟨j + 1, q + 1, by omega, by go_num, rfl, fun u hu => ?_⟩
                  by_cases e : u = j
                  · subst e
                    rw [HX.out, HY.out, HXY.out]
                  · exact HE2.out u (by omega)
              · have HXY := Lib.hid hxy
                have hc : (x != y) = true := by simpa using hxy
                clear hxy
                go_wp2_with fail
                go_region
                go_wp2
                go_ret
                refine ⟨ret_bool ?_, below_drewN HB2.out _⟩
                have : ¬ i.l = k.l := fun e => HXY.out (by have h1 := HX.out; have h2 := HY.out; rw [e, h2] at h1; injection h1 with h1; exact h1.symm)
                rw [HE.out, decide_eq_false this]
            · have hjj : j = i.l.length := by omega
              subst hjj
              have hab : i.l = k.l := heq.all rfl HL.out.symm
              clear heq
              go_wp2
              go_ret
              exact ⟨ret_bool (by rw [HE.out, decide_eq_true hab]), below_drewN HB2.out _⟩
        · have d4 : ((i.l.length : Int) != k.l.length) = true := by simp; omega
          have HNO := Lib.hid (fun W hb => same_no (i := i) (k := k) (w := w) (W := W) (fun h => h4 (by rw [h.2.2.2])) hb)
          clear h1 h2 h3 h4
          go_enter Tryz.func52, Tryz.ntmps52
          go_wp2
          go_ret
          exact HNO.out _ HB2.out
      · have d3 : (i.b != k.b) = true := by simpa using h3
        have HNO := Lib.hid (fun W hb => same_no (i := i) (k := k) (w := w) (W := W) (fun h => h3 h.2.2.1) hb)
        clear h1 h2 h3
        go_enter Tryz.func52, Tryz.ntmps52
        go_wp2
        go_ret
        exact HNO.out _ HB2.out
    · have d2 : (i.a != k.a) = true := by simpa using h2
      have HNO := Lib.hid (fun W hb => same_no (i := i) (k := k) (w := w) (W := W) (fun h => h2 h.2.1) hb)
      clear h1 h2
      go_enter Tryz.func52, Tryz.ntmps52
      go_wp2
      go_ret
      exact HNO.out _ HB2.out
  · have d1 : ((i.op.toNat : Int) != k.op.toNat) = true := by have := op_ne h1; simp at this ⊢; exact this
    have HNO := Lib.hid (fun W hb => same_no (i := i) (k := k) (w := w) (W := W) (fun h => h1 h.1) hb)
    clear h1
    go_enter Tryz.func52, Tryz.ntmps52
    go_wp2
    go_ret
    exact HNO.out _ HB2.out
end Go.Proofs.YtebgmfjgapmpfaaGreatDoor

/- The walk of ConstsPuts. -/
namespace Go.Proofs.YtebgmfjgapmpfaaGreatDoor
open Go.RowKit
set_option linter.unusedVariables false
set_option maxRecDepth 100000

/-- What the laws keep of an instruction: its box, its labels; the tables. -/
structure CSt (w : World) (i : I) (A : Option Addr) (c : Nat) (W : World) : Prop where
  tb : Tabs W
  box : BoxI w W i A c
  li : LiesL W A i.l
section
variable {w W W' : World} {i : I} {A : Option Addr} {c : Nat} {v : Value} {xs : List UInt8}
theorem CSt.on (h : CSt w i A c W) (hb : Below W.heap.size W W') : CSt w i A c W' := ⟨h.tb.below hb, h.box.on hb, h.li.below hb⟩
theorem CSt.start (hT : Tabs w) (hi : LiesL w A i.l) : CSt w i A c (w.alloc (.cells (insC i A c) 44)) :=
  ⟨hT.below (below_box _ _), BoxI.start w i A c, hi.below (below_box _ _)⟩
theorem CSt.bel (h : CSt w i A c W) : Below w.heap.size w W := h.box.2
/-- .. and bytes that were made. -/
structure CLb (w : World) (i : I) (A : Option Addr) (c : Nat) (v : Value) (xs : List UInt8) (W : World) : Prop where
  a : CSt w i A c W
  r : Row W w.heap.size v xs
theorem CLb.on (h : CLb w i A c v xs W) (hb : Below W.heap.size W W') : CLb w i A c v xs W' := ⟨h.a.on hb, h.r.later hb⟩
abbrev Five (w : World) (i : I) (A : Option Addr) (c : Nat) (Ab : Option Addr) (cb : Nat) (xs : List UInt8) (W : World) : Prop :=
  (W.cell? ⟨w.heap.size, 0, none⟩ = some (.int .u8 i.op.toNat) ∧ W.cell? ⟨w.heap.size, 1, none⟩ = some (.int .u64 i.a) ∧ W.cell? ⟨w.heap.size, 2, none⟩ = some (.int .u64 i.b) ∧ W.cell? ⟨w.heap.size, 3, none⟩ = some (.slice A i.l.length c)) ∧
  (convert 22 9 (.slice Ab xs.length cb)).run Tryz.prog W = .ok (.string (S xs)) W
theorem CLb.five {Ab : Option Addr} {cb : Nat} (h : CLb w i A c (.slice Ab xs.length cb) xs W) : CLb w i A c (.slice Ab xs.length cb) xs W ∧ Five w i A c Ab cb xs W := by
  obtain ⟨A', c', e, hc⟩ := h.r.str
  injection e with e1 e2 e3
  subst e1; subst e3
  exact ⟨h, ⟨h.a.box.c0, h.a.box.c1, h.a.box.c2, h.a.box.c3⟩, hc 9 Tryz.underlying9⟩
end
theorem same_self (i : I) : sameZ i i = true := by unfold sameZ; simp
theorem gIns_same (n : Int) (w : World) : Calls Tryz.prog 52 #[.agg #[.int .u8 35, .int .u64 n, .int .u64 0, .slice none 0 0], .agg #[.int .u8 35, .int .u64 n, .int .u64 0, .slice none 0 0]] w (BoolPost true w) := by
  have := refSame_any (w := w) (A := none) (B := none) (c := 0) (d := 0) (i := gIns n) (k := gIns n) (fun j v hv => by simp [cells32] at hv) (fun j v hv => by simp [cells32] at hv) (by simp) (by simp)
  rw [same_self] at this
  exact this

end Go.Proofs.YtebgmfjgapmpfaaGreatDoor

/- creelref12.GetAll of any bytes; creelref12.Same. -/
namespace Go.Proofs.YtebgmfjgapmpfaaGreatDoor
open Go.RowKit
set_option linter.unusedVariables false
set_option maxRecDepth 100000

/-- What holds at the head of the reference's loop. -/
structure BInG (w : World) (q : Nat) (l : List UInt8) (s : RSt) (xs : List SlotG) (v : Value) (W : World) : Prop where
  rs : Rs W q l s
  g : w.grownBy W (some q)
  r : RowG W w.heap.size v xs
section
variable {w W W' : World} {q : Nat} {l : List UInt8} {s s' : RSt} {xs : List SlotG} {x : SlotG} {v v' : Value}
theorem BInG.step (h : BInG w q l s xs v W) (hq : q < w.heap.size) (hg : W.grownBy W' (some q)) (hs : Rs W' q l s') : BInG w q l s' xs v W' :=
  ⟨hs, gb_trans h.g hg, h.r.past hg hq⟩
theorem BInG.alloc (h : BInG w q l s xs v W) (hq : q < w.heap.size) (o : Obj) : BInG w q l s xs v (W.alloc o) := h.step hq (gb_alloc (gb_refl _ _) o) (h.rs.alloc o)
theorem BInG.more (h : BInG w q l s xs v W) (hq : q < w.heap.size) (hg : W.grownBy W' v.ownBlock) (hr : RowG W' w.heap.size v' (xs ++ [x])) : BInG w q l s (xs ++ [x]) v' W' := by
  have hlt := World.ownsRow.lt h.r
  exact ⟨h.rs.grown hg (fun e => by have := hlt q e.symm; omega) (fun g e => by have := hlt g e; omega), gb_before h.g hg (fun g e => .inr (hlt g e).1), hr⟩
end
/-- How far the list is. -/
def GInv (l : List UInt8) (n j : Nat) (s : RSt) (rows : List SlotG) (R : Res (List Gl)) : Prop := match s with
  | .at k => gsK l (n - j) k (rows.map (·.1)) = R
  | .bad c a => R = .err c a
theorem GInv.step {l : List UInt8} {n j k : Nat} {rows : List SlotG} {R : Res (List Gl)} (h : GInv l n j (.at k) rows R) (hlt : j < n) {x : Gl} {A : Option Addr} {c : Nat} (hv : ∀ y k2, gR l k = .ok y k2 → x = y) :
    GInv l n (j + 1) (stOf (gR l k)) (rows ++ [(x, A, c)]) R := by
  have h1 : gsK l (n - j) k (rows.map (·.1)) = R := h
  rw [gsK_more hlt] at h1
  cases hg : gR l k with
  | err c a =>
    rw [hg, Res.bind_err] at h1
    exact h1.symm
  | ok y k2 =>
    rw [hg, Res.bind_ok] at h1
    obtain rfl := hv y k2 hg
    show gsK l (n - (j + 1)) k2 ((rows ++ [(x, A, c)]).map (·.1)) = R
    rw [List.map_append]
    exact h1
/-- What creelref12.GetAll leaves behind. -/
def RGotAllG (q : Nat) (l : List UInt8) (r : Res (List Gl)) (w : World) (e : Ending) (w' : World) : Prop := match r with
  | .ok xs k => ∃ v rows, e = .returned v ∧ RowG w' w.heap.size v rows ∧ rows.map (·.1) = xs ∧ Rs w' q l (.at k) ∧ w.grownBy w' (some q)
  | .err c a => e = .returned (.slice none 0 0) ∧ Rs w' q l (.bad c a) ∧ w.grownBy w' (some q)
set_option maxHeartbeats 4000000 in
theorem rgetall_gl {w : World} {q : Nat} {l : List UInt8} {k0 : Nat} (h : Rs w q l (.at k0)) :
    Calls Tryz.prog 13 #[.pointer (some ⟨q, 0, none⟩)] w (RGotAllG q l (allR l k0) w) := by
  have hq := h.lt
  have hC := count_ref h
  have key : ∃ (n : Nat) (s0 : RSt) (R : Res (List Gl)), vZ (countR l k0) = n ∧ n ≤ 10000 ∧ stOf (countR l k0) = s0 ∧ GInv l n 0 s0 [] R ∧ allR l k0 = R.bind fun xs k2 => if k2 < l.length then .err 14 k2 else .ok xs k2 := by
    unfold allR
    cases hr : countR l k0 with
    | err c a => exact ⟨0, .bad c a, .err c a, rfl, by omega, rfl, rfl, rfl⟩
    | ok v k1 =>
      obtain ⟨v0, v1⟩ := countR_ok hr
      obtain ⟨n, rfl⟩ : ∃ n : Nat, v = n := ⟨v.toNat, by omega⟩
      exact ⟨n, .at k1, gsK l n k1 [], rfl, by omega, rfl, rfl, by rw [Res.bind_ok, Int.toNat_natCast]⟩
  obtain ⟨n, s0, R, e1, e2, e3, hiv, hT⟩ := key
  rw [e1, e3] at hC
  obtain ⟨T, hTe⟩ : ∃ T, T = allR l k0 := ⟨_, rfl⟩
  rw [← hTe] at hT ⊢
  have HC := Lib.hid hC
  have HTE := Lib.hid hT
  have HIV := Lib.hid hiv
  clear h hC e1 e3 hiv hT hTe
  go_enter Tryz.func13, Tryz.ntmps13
  go_wp2_with (go_at_call 49; go_must ((with_reducible refine HC.out.mono ?_); rintro e w1 ⟨rfl, hs, hg⟩; have HS := Lib.hid hs; have HG := Lib.hid hg; clear hs hg))
  go_loopw [4, 5] (fun v i wr => ∃ (j : Nat) (s : RSt) (rows : List SlotG), j ≤ n ∧ i = .int .i64 j ∧ rows.length = j ∧ BInG w q l s rows v wr ∧ GInv l n j s rows R) (fun _ i _ => n - (intOf i).toNat)
  case atStart => exact ⟨0, s0, [], Nat.zero_le _, rfl, rfl, ⟨HS.out, HG.out, RowG.nil _ _⟩, HIV.out⟩
  case round =>
    obtain ⟨j, s, rows, hj, rfl, hlen, hb, hiv⟩ := hrel
    have HB := Lib.hid hb
    have HLEN := Lib.hid hlen
    have hle : rows.length ≤ 10000 := by omega
    cases s with
    | bad c a =>
      have x2 := why_bad hb.rs
      have dw : (c != 0) = true := by simpa using hb.rs.nz
      have dw2 : (c == 0) = false := by simpa using hb.rs.nz
      have HRE := Lib.hid (show T = .err c a by rw [HTE.out, show R = .err c a from hiv, Res.bind_err])
      have HEn := Lib.hid (fun W (g : Rs W q l (.bad c a)) => show Calls Tryz.prog 51 #[.pointer (some ⟨q, 0, none⟩)] W fun e w' => e = .returned (.tuple #[]) ∧ Rs w' q l (.bad c a) ∧ W.grownBy w' (some q) from end_ref g)
      clear hb hiv hlen hle
      by_cases hlt : j < n
      all_goals
        go_wp2_with (go_at_call 51; go_must ((with_reducible refine (HEn.out _ HB.out.rs).mono ?_); rintro e w2 ⟨rfl, hs, hg⟩; clear x2; have x2 := why_bad hs; have HS2 := Lib.hid hs; have HG2 := Lib.hid hg; clear hs hg))
        go_ret
        rw [HRE.out]
        exact ⟨rfl, HS2.out, gb_trans HB.out.g HG2.out⟩
    | «at» k =>
      have x2 := why_at hb.rs
      by_cases hlt : j < n
      · have HG := Lib.hid (show Calls Tryz.prog 50 #[.pointer (some ⟨q, 0, none⟩)] wr (fun e w' => ∃ (x : Gl) (A : Option Addr) (c : Nat), e = .returned (glV x A c) ∧ Rs w' q l (stOf (gR l k)) ∧ (∀ y k2, gR l k = .ok y k2 → x = y) ∧ wr.grownBy w' (some q)) from rget_gl hb.rs)
        have HST := Lib.hid (fun (x : Gl) (A : Option Addr) (c : Nat) (hv : ∀ y k2, gR l k = .ok y k2 → x = y) => GInv.step (A := A) (c := c) hiv hlt hv)
        clear hb hiv hlen
        go_wp2_with (first
          | (go_at_call 50; go_must ((with_reducible refine HG.out.mono ?_); intro e w2 hqq; obtain ⟨x, A, c, rfl, hs, hv, hg⟩ := hqq; have HV := Lib.hid hv; have HA2 := Lib.hid (HB.out.step hq hg hs); have hz2 := HA2.out.g.size; have HX := Lib.hid (Whole.made w2 46 (sC (x, A, c))); clear hs hg hv x2))
          | (at_builtin; (refine rowG_new rfl _ _ rfl w.heap.size _ rows rfl (HA2.out.alloc hq _).r w2.heap.size (x, A, c) rfl HX.out hle (Nat.le_trans hz2 (below_box w2 _).size) ?_; intro v3 w3 hr3 hg3; have HA3 := Lib.hid ((HA2.out.alloc hq _).more hq hg3 hr3); clear hr3 hg3)))
        go_roundw
        case rel => exact ⟨j + 1, _, rows ++ [(x, A, c)], by omega, by go_num, by rw [List.length_append, HLEN.out, List.length_singleton], HA3.out, HST.out x A c HV.out⟩
        case measure => simp [intOf]; omega
      · obtain rfl : j = n := by omega
        have hR : R = .ok (rows.map (·.1)) k := by
          have h1 : gsK l (j - j) k (rows.map (·.1)) = R := hiv
          rw [Nat.sub_self] at h1
          exact h1.symm
        by_cases hk : k < l.length
        · have HRE := Lib.hid (show T = .err 14 k by rw [HTE.out, hR, Res.bind_ok, if_pos hk])
          have HEn := Lib.hid (fun W (g : Rs W q l (.at k)) => show Calls Tryz.prog 51 #[.pointer (some ⟨q, 0, none⟩)] W fun e w' => e = .returned (.tuple #[]) ∧ Rs w' q l (.bad 14 k) ∧ W.grownBy w' (some q) from by have := end_ref g; rw [show endS l (.at k) = .bad 14 k from if_pos hk] at this; exact this)
          clear hb hiv hlen hle hR hk
          go_wp2_with (go_at_call 51; go_must ((with_reducible refine (HEn.out _ HB.out.rs).mono ?_); rintro e w2 ⟨rfl, hs, hg⟩; clear x2; have x2 := why_bad hs; have HS2 := Lib.hid hs; have HG2 := Lib.hid hg; clear hs hg))
          go_ret
          rw [HRE.out]
          exact ⟨rfl, HS2.out, gb_trans HB.out.g HG2.out⟩
        · have HRE := Lib.hid (show T = .ok (rows.map (·.1)) k by rw [HTE.out, hR, Res.bind_ok, if_neg hk])
          have HEn := Lib.hid (fun W (g : Rs W q l (.at k)) => show Calls Tryz.prog 51 #[.pointer (some ⟨q, 0, none⟩)] W fun e w' => e = .returned (.tuple #[]) ∧ Rs w' q l (.at k) ∧ W.grownBy w' (some q) from by have := end_ref g; rw [show endS l (.at k) = .at k from if_neg hk] at this; exact this)
          clear hb hiv hlen hle hR hk
          go_wp2_with (go_at_call 51; go_must ((with_reducible refine (HEn.out _ HB.out.rs).mono ?_); rintro e w2 ⟨rfl, hs, hg⟩; clear x2; have x2 := why_at hs; have HB2 := Lib.hid (HB.out.step hq hg hs); clear hs hg))
          go_ret
          rw [HRE.out]
          exact ⟨_, rows, rfl, HB2.out.r, rfl, HB2.out.rs, HB2.out.g⟩
/-- Same, of two that are alike and have no labels. -/
theorem rsame_gl {w : World} {x : Gl} {A B : Option Addr} {c d : Nat} (hx : x.i.l = []) :
    Calls Tryz.prog 14 #[glV x A c, glV x B d] w (BoolPost true w) := by
  have H1 := bxG_start w x A c
  have hb2 : Below w.heap.size w ((w.alloc (.cells (glC x A c) 46)).alloc (.cells (glC x B d) 46)) := (below_box w _).alloc (by simp) _
  have hS := refSame_any (w := (w.alloc (.cells (glC x A c) 46)).alloc (.cells (glC x B d) 46)) (A := A) (B := B) (c := c) (d := d) (i := x.i) (k := x.i) (by rw [hx]; intro j v hv; simp [cells32] at hv) (by rw [hx]; intro j v hv; simp [cells32] at hv) (by rw [hx]; simp) (by rw [hx]; simp)
  rw [same_self] at hS
  have HS := Lib.hid hS
  have HB := Lib.hid hb2
  clear hS hb2 H1 hx
  go_enter Tryz.func14, Tryz.ntmps14
  go_wp2_with (go_at_call 52; go_must ((with_reducible refine HS.out.mono ?_); rintro e w2 ⟨rfl, hb⟩; have HB2 := Lib.hid hb; clear hb))
  go_ret
  exact ⟨rfl, HB.out.trans (HB2.out.mono HB.out.size)⟩
end Go.Proofs.YtebgmfjgapmpfaaGreatDoor

/- abort.Value of a function that ends well, whatever it hands back: []api.Global. Value of one that aborts. -/
namespace Go.Proofs.YtebgmfjgapmpfaaGreatDoor
open Go.RowKit
set_option linter.unusedVariables false
set_option maxRecDepth 100000

theorem cfVGs (cap : Array Value) (w : World) : (callFunc 46 cap).run Tryz.prog w = .ok (.enter 46 cap) w := by kernel_rfl
section
variable {T : (Option Addr × Nat × Nat) → World → Prop}
/-- Value's own closure: what the step hands back lies in its cell. -/
theorem valClosGs {g : FuncId} {cap : Array Value} {b1 b4 q : Nat} {w : World} {z : Array Value} (hz : z.size = 1) (hcf : ∀ w : World, (callFunc g cap).run Tryz.prog w = .ok (.enter g cap) w)
    (h1 : Whole w b1 36 #[.func (.func g) #[] cap]) (h4 : Whole w b4 29 #[.slice none 0 0]) (hb : q < b4) (hT : ∀ x W W', T x W → W.grownBy W' (some b4) → T x W')
    (h : Calls Tryz.prog g cap w fun e w' => ∃ x, e = .returned (.slice x.1 x.2.1 x.2.2) ∧ T x w' ∧ w.grownBy w' (some q)) :
    Calls Tryz.prog 46 #[.pointer (some ⟨b1, 0, none⟩), .pointer (some ⟨b4, 0, none⟩)] w fun e w' =>
      e = .returned (.tuple #[]) ∧ ∃ x, T x w' ∧ Whole w' b4 29 #[.slice x.1 x.2.1 x.2.2] ∧ ∃ w1, w.grownBy w1 (some q) ∧ w1.grownBy w' (some b4) := by
  have hnil : ∀ w : World, (binOp BinOp.neq 36 (.func (.func g) #[] cap) .nilFunc).run Tryz.prog w = .ok (.bool true) w := fun _ => by kernel_rfl
  have c1 := h1.cell 0
  simp only [List.getElem?_toArray, List.getElem?_cons_zero] at c1
  have HH := Lib.hid h
  have H4 := Lib.hid h4
  have HT := Lib.hid hT
  clear h h1 h4 hT
  go_enter Tryz.func46, Tryz.ntmps46
  go_wp2_with fail
  refine HH.out.mono ?_
  rintro e w1 ⟨x, rfl, hs, hg⟩
  have HW := H4.out.grown hg (by simp only [ne_eq, Option.some.injEq]; omega)
  have k0 := HW.cell 0
  have f0 := HW.frozen 0
  simp only [List.getElem?_toArray, List.getElem?_cons_zero] at k0
  obtain ⟨p1, p2⟩ := put1 (u0 := .slice x.1 x.2.1 x.2.2) HW
  have F : Hid (T x (w1.setCell ⟨b4, 0, none⟩ (.slice x.1 x.2.1 x.2.2))) := HT.out _ _ _ hs p2
  have P1 := Lib.hid p1
  have P2 := Lib.hid p2
  have HG := Lib.hid hg
  clear p1 p2 hs hg HW hcf
  go_wp2_with fail
  go_end0
  exact ⟨rfl, x, F.out, P1.out, w1, HG.out, P2.out⟩
/-- What Value's closure leaves behind, seen from Value's beginning. -/
structure VSGs (T : (Option Addr × Nat × Nat) → World → Prop) (w : World) (q : Nat) (x : (Option Addr × Nat × Nat)) (w1 : World) : Prop where
  kept : T x w1
  grown : w.grownBy w1 (some q)
  val : Whole w1 (w.heap.size + 2) 29 #[.slice x.1 x.2.1 x.2.2]
  r2 : Whole w1 (w.heap.size + 1) 32 #[.int .i64 0, .int .i64 0]
/-- The world in which Value calls Out. -/
def vWorldGs (g : FuncId) (cap : Array Value) (w : World) : World :=
  ((w.alloc (.cells #[.func (.func g) #[] cap] 36)).alloc (.cells #[.int .i64 0, .int .i64 0] 32)).alloc (.cells #[.slice none 0 0] 29)
theorem vWorld_factsGs (g : FuncId) (cap : Array Value) (w : World) : (vWorldGs g cap w).heap.size = w.heap.size + 3 ∧ Whole (vWorldGs g cap w) w.heap.size 36 #[.func (.func g) #[] cap] ∧
    Whole (vWorldGs g cap w) (w.heap.size + 1) 32 #[.int .i64 0, .int .i64 0] ∧
    Whole (vWorldGs g cap w) (w.heap.size + 2) 29 #[.slice none 0 0] ∧ Below w.heap.size w (vWorldGs g cap w) := by
  have b1 := Whole.made w 36 #[.func (.func g) #[] cap]
  have b3 := Whole.made (w.alloc (.cells #[.func (.func g) #[] cap] 36)) 32 #[.int .i64 0, .int .i64 0]
  have b4 := Whole.made ((w.alloc (.cells #[.func (.func g) #[] cap] 36)).alloc (.cells #[.int .i64 0, .int .i64 0] 32)) 29 #[.slice none 0 0]
  simp only [World.size_alloc] at b3 b4
  exact ⟨by simp [vWorldGs], (b1.alloc _).alloc _, b3.alloc _, b4,
    (((Below.refl _ _).alloc (Nat.le_refl _) _).alloc (by simp) _).alloc (by simp; omega) _⟩
theorem value_outGs {g : FuncId} {cap : Array Value} {q : Nat} {w : World} (hcf : ∀ w : World, (callFunc g cap).run Tryz.prog w = .ok (.enter g cap) w) (hq : q < w.heap.size)
    (hT : ∀ x W W' b, w.heap.size ≤ b → b < w.heap.size + 4 → T x W → W.grownBy W' (some b) → T x W')
    (h : ∀ W, Below w.heap.size w W → w.heap.size + 4 ≤ W.heap.size → Calls Tryz.prog g cap W fun e w' => ∃ x, e = .returned (.slice x.1 x.2.1 x.2.2) ∧ T x w' ∧ W.grownBy w' (some q)) :
    Calls Tryz.prog 45 #[.func (.func 46) #[] #[.pointer (some ⟨w.heap.size, 0, none⟩), .pointer (some ⟨w.heap.size + 2, 0, none⟩)]] (vWorldGs g cap w) fun e w' => e = .returned (.agg #[.int .i64 0, .int .i64 0]) ∧ ∃ x, VSGs T w q x w' := by
  obtain ⟨hz, b1, b3, b4, hbe⟩ := vWorld_factsGs g cap w
  have b5 := Whole.made (vWorldGs g cap w) 32 #[.int .i64 0, .int .i64 0]
  have hbe2 : Below w.heap.size w ((vWorldGs g cap w).alloc (.cells #[.int .i64 0, .int .i64 0] 32)) := hbe.alloc (by omega) _
  have hc := valClosGs (T := T) (z := #[.slice none 0 0]) rfl hcf (b1.alloc (.cells #[.int .i64 0, .int .i64 0] 32)) (b4.alloc _) (by omega : q < w.heap.size + 2) (fun x W W' => hT x W W' _ (by omega) (by omega)) (h _ hbe2 (by rw [size_box]; omega))
  refine (out_any _ _ 0 0 (vWorldGs g cap w) (fun w1 => (∃ x, VSGs T w q x w1) ∧ Whole w1 (vWorldGs g cap w).heap.size 32 #[.int .i64 0, .int .i64 0]) (cfVGs _) (hc.mono ?_) (fun _ h => h.2)).mono ?_
  · rintro e w' ⟨rfl, x, hs, hv, w1, hg1, hg2⟩
    have hz2 : w.heap.size + 4 ≤ w1.heap.size := by have := hg1.size; simp only [World.size_alloc] at this; omega
    refine ⟨.inl ⟨rfl, rfl, rfl⟩, ⟨x, hs, ?_, hv, ?_⟩, ?_⟩
    · exact gb_before (gb_trans (gb_of_below (some q) hbe2) hg1) hg2 (fun g e => .inr (by injection e with e; omega))
    · exact ((b3.alloc _).grown hg1 (by simp only [ne_eq, Option.some.injEq]; omega)).grown hg2 (by simp only [ne_eq, Option.some.injEq]; omega)
    · exact (b5.grown hg1 (by simp only [ne_eq, Option.some.injEq]; omega)).grown hg2 (by simp only [ne_eq, Option.some.injEq]; omega)
  · rintro e w' ⟨rfl, w1, ⟨⟨x, hs⟩, _⟩, hg⟩
    rw [hz] at hg
    exact ⟨rfl, x, hT x _ _ _ (by omega) (by omega) hs.kept hg, gb_before hs.grown hg (fun g e => .inr (by injection e with e; omega)), hs.val.grown hg (by simp only [ne_eq, Option.some.injEq]; omega), hs.r2.grown hg (by simp only [ne_eq, Option.some.injEq]; omega)⟩

set_option maxHeartbeats 800000 in
/-- Value of a function that ends well. -/
theorem valueGs_ok {g : FuncId} {cap : Array Value} {q : Nat} {w : World} (hcf : ∀ w : World, (callFunc g cap).run Tryz.prog w = .ok (.enter g cap) w) (hq : q < w.heap.size)
    (hT : ∀ x W W' b, w.heap.size ≤ b → b < w.heap.size + 4 → T x W → W.grownBy W' (some b) → T x W')
    (h : ∀ W, Below w.heap.size w W → w.heap.size + 4 ≤ W.heap.size → Calls Tryz.prog g cap W fun e w' => ∃ x, e = .returned (.slice x.1 x.2.1 x.2.2) ∧ T x w' ∧ W.grownBy w' (some q)) :
    Calls Tryz.prog 10 #[.func (.func g) #[] cap] w fun e w' => ∃ x, e = .returned (.tuple #[.slice x.1 x.2.1 x.2.2, .agg #[.int .i64 0, .int .i64 0]]) ∧ T x w' ∧ w.grownBy w' (some q) := by
  have hv := value_outGs hcf hq hT h
  unfold vWorldGs at hv
  have HV := Lib.hid hv
  have HT := Lib.hid hT
  have hmf : ∀ (fn : Fn) (first cap : Array Value) (w : World), (Instr.makeFunc fn first cap).run Tryz.prog w = .ok (.func fn first cap) w := fun _ _ _ _ => rfl
  clear h hv hcf hT
  go_enter Tryz.func10, Tryz.ntmps10
  go_wp2_with (go_at_call 45; go_must (refine HV.out.mono ?_; rintro e w2 ⟨rfl, x, hl⟩; have k0 := fun o => (hl.val.alloc o).cell 0; have f8 := fun o => (hl.r2.alloc o).frozen 0; have f9 := fun o => (hl.r2.alloc o).frozen 1; have m8 := fun o => (hl.r2.alloc o).cell 0; have m9 := fun o => (hl.r2.alloc o).cell 1; simp only [List.getElem?_toArray, List.getElem?_cons_zero, List.getElem?_cons_succ] at k0 m8 m9; have hz := hl.grown.size; have HL := Lib.hid hl; clear hl))
  obtain ⟨p2, g2⟩ := put2 (u0 := .int .i64 0) (u1 := .int .i64 0) (HL.out.r2.alloc (.cells #[.int .i64 0, .int .i64 0] 32))
  have q8 := p2.cell 0
  have q9 := p2.cell 1
  simp only [List.getElem?_toArray, List.getElem?_cons_zero, List.getElem?_cons_succ] at q8 q9
  refine bodyPost_ret (v := .tuple #[.slice x.1 x.2.1 x.2.2, .agg #[.int .i64 0, .int .i64 0]]) (by simp [results, Tryz.results10, go_sem, q8, q9]) rfl ⟨x, rfl, ?_, ?_⟩
  · exact HT.out _ _ _ _ (by omega) (by omega) (HT.out _ _ _ w.heap.size (Nat.le_refl _) (by omega) HL.out.kept (gb_alloc (gb_refl _ _) _)) g2
  · exact gb_before (gb_alloc HL.out.grown _) g2 (fun g e => .inr (by injection e with e; omega))
end
/-- Value's own closure: what aborts goes on. -/
theorem valClosGsE {g : FuncId} {cap : Array Value} {b1 b4 q : Nat} {w : World} {c a : Int} (hcf : ∀ w : World, (callFunc g cap).run Tryz.prog w = .ok (.enter g cap) w)
    (h1 : Whole w b1 36 #[.func (.func g) #[] cap])
    (h : Calls Tryz.prog g cap w fun e w' => e = .panicked (stopP c a) ∧ w.grownBy w' (some q)) :
    Calls Tryz.prog 46 #[.pointer (some ⟨b1, 0, none⟩), .pointer (some ⟨b4, 0, none⟩)] w fun e w' => e = .panicked (stopP c a) ∧ w.grownBy w' (some q) := by
  have hnil : ∀ w : World, (binOp BinOp.neq 36 (.func (.func g) #[] cap) .nilFunc).run Tryz.prog w = .ok (.bool true) w := fun _ => by kernel_rfl
  have c1 := h1.cell 0
  simp only [List.getElem?_toArray, List.getElem?_cons_zero] at c1
  have HH := Lib.hid h
  clear h h1
  go_enter Tryz.func46, Tryz.ntmps46
  go_wp2_with fail
  refine HH.out.mono ?_
  rintro e w1 ⟨rfl, hg⟩
  exact ⟨rfl, rfl, hg⟩
theorem value_outGsE {g : FuncId} {cap : Array Value} {q : Nat} {w : World} {c a : Int} (hc : ¬ c = 0) (hcf : ∀ w : World, (callFunc g cap).run Tryz.prog w = .ok (.enter g cap) w) (hq : q < w.heap.size)
    (h : ∀ W, Below w.heap.size w W → w.heap.size + 4 ≤ W.heap.size → Calls Tryz.prog g cap W fun e w' => e = .panicked (stopP c a) ∧ W.grownBy w' (some q)) :
    Calls Tryz.prog 45 #[.func (.func 46) #[] #[.pointer (some ⟨w.heap.size, 0, none⟩), .pointer (some ⟨w.heap.size + 2, 0, none⟩)]] (vWorldGs g cap w) fun e w' => e = .returned (.agg #[.int .i64 c, .int .i64 a]) ∧
      w.grownBy w' (some q) ∧ w.heap.size + 3 ≤ w'.heap.size ∧ Whole w' (w.heap.size + 2) 29 #[.slice none 0 0] ∧ Whole w' (w.heap.size + 1) 32 #[.int .i64 0, .int .i64 0] := by
  obtain ⟨hz, b1, b3, b4, hbe⟩ := vWorld_factsGs g cap w
  have b5 := Whole.made (vWorldGs g cap w) 32 #[.int .i64 0, .int .i64 0]
  have hbe2 : Below w.heap.size w ((vWorldGs g cap w).alloc (.cells #[.int .i64 0, .int .i64 0] 32)) := hbe.alloc (by omega) _
  have hcl := valClosGsE (b4 := w.heap.size + 2) hcf (b1.alloc (.cells #[.int .i64 0, .int .i64 0] 32)) (h _ hbe2 (by rw [size_box]; omega))
  refine (out_any _ _ c a (vWorldGs g cap w) (fun w1 => ((vWorldGs g cap w).alloc (.cells #[.int .i64 0, .int .i64 0] 32)).grownBy w1 (some q)) (cfVGs _) (hcl.mono ?_) (fun w1 hg => b5.grown hg (by simp only [ne_eq, Option.some.injEq]; omega))).mono ?_
  · rintro e w' ⟨rfl, hg⟩
    exact ⟨.inr ⟨hc, rfl⟩, hg⟩
  · rintro e w' ⟨rfl, w1, hg1, hg2⟩
    have z1 := hg1.size
    have z2 := hg2.size
    rw [size_box] at z1
    rw [hz] at hg2
    exact ⟨rfl, gb_before (gb_trans (gb_of_below (some q) hbe2) hg1) hg2 (fun g e => .inr (by injection e with e; omega)), by omega,
      ((b4.alloc _).grown hg1 (by simp only [ne_eq, Option.some.injEq]; omega)).grown hg2 (by simp only [ne_eq, Option.some.injEq]; omega),
      ((b3.alloc _).grown hg1 (by simp only [ne_eq, Option.some.injEq]; omega)).grown hg2 (by simp only [ne_eq, Option.some.injEq]; omega)⟩
set_option maxHeartbeats 4000000 in
/-- Value of a function that aborts. -/
theorem valueGsE_any {g : FuncId} {cap : Array Value} {q : Nat} {w : World} {c a : Int} (hc : ¬ c = 0) (hcf : ∀ w : World, (callFunc g cap).run Tryz.prog w = .ok (.enter g cap) w) (hq : q < w.heap.size)
    (h : ∀ W, Below w.heap.size w W → w.heap.size + 4 ≤ W.heap.size → Calls Tryz.prog g cap W fun e w' => e = .panicked (stopP c a) ∧ W.grownBy w' (some q)) :
    Calls Tryz.prog 10 #[.func (.func g) #[] cap] w fun e w' => e = .returned (.tuple #[.slice none 0 0, .agg #[.int .i64 c, .int .i64 a]]) ∧ w.grownBy w' (some q) := by
  have hv := value_outGsE hc hcf hq h
  unfold vWorldGs at hv
  have HV := Lib.hid hv
  have dc : (c == 0) = false := by simpa using hc
  have hmf : ∀ (fn : Fn) (first cap : Array Value) (w : World), (Instr.makeFunc fn first cap).run Tryz.prog w = .ok (.func fn first cap) w := fun _ _ _ _ => rfl
  clear h hv hcf hc
  go_enter Tryz.func10, Tryz.ntmps10
  go_wp2_with (go_at_call 45; go_must (refine HV.out.mono ?_; rintro e w2 ⟨rfl, hg, hz, hv, hr2⟩; have HL := Lib.hid (show w.grownBy w2 (some q) ∧ w.heap.size + 3 ≤ w2.heap.size ∧ Whole w2 (w.heap.size + 2) 29 #[.slice none 0 0] ∧ Whole w2 (w.heap.size + 1) 32 #[.int .i64 0, .int .i64 0] from ⟨hg, hz, hv, hr2⟩); clear hg hz hv hr2))
  generalize hW : w2.alloc (.cells #[.int .i64 c, .int .i64 a] 32) = W at *
  have hz2 := HL.out.2.1
  have k3 : Whole W (w.heap.size + 2) 29 #[.slice none 0 0] := by rw [← hW]; exact HL.out.2.2.1.alloc _
  have k2 : Whole W (w.heap.size + 1) 32 #[.int .i64 0, .int .i64 0] := by rw [← hW]; exact HL.out.2.2.2.alloc _
  have k5 : Whole W w2.heap.size 32 #[.int .i64 c, .int .i64 a] := by rw [← hW]; exact Whole.made _ _ _
  have hgW : w.grownBy W (some q) := by rw [← hW]; exact gb_alloc HL.out.1 _
  clear hW
  have K2 := Lib.hid k2
  have KG := Lib.hid hgW
  have v0 := k3.cell 0
  have s0 := k5.cell 0
  have s1 := k5.cell 1
  have n0 := k2.cell 0
  have n1 := k2.cell 1
  have g0 := k2.frozen 0
  have g1 := k2.frozen 1
  have e2 : ¬ w2.heap.size = w.heap.size + 1 := by omega
  simp only [List.getElem?_toArray, List.getElem?_cons_zero, List.getElem?_cons_succ] at v0 s0 s1 n0 n1
  clear k2 k3 k5 hgW
  go_region
  all_goals
    go_wp2
    obtain ⟨p2, j2⟩ := put2 (u0 := .int .i64 c) (u1 := .int .i64 a) K2.out
    have q8 := p2.cell 0
    have q9 := p2.cell 1
    simp only [List.getElem?_toArray, List.getElem?_cons_zero, List.getElem?_cons_succ] at q8 q9
    have hfin := gb_before KG.out j2 (fun g e => .inr (by injection e with e; omega))
    refine bodyPost_ret (v := .tuple #[.slice none 0 0, .agg #[.int .i64 c, .int .i64 a]]) (by simp [results, Tryz.results10, go_sem, q8, q9]) rfl ⟨rfl, ?_⟩
    first | exact hfin | exact gb_drew hfin | exact ⟨hfin.os, hfin.tape, hfin.output, hfin.size, hfin.block⟩
end Go.Proofs.YtebgmfjgapmpfaaGreatDoor
