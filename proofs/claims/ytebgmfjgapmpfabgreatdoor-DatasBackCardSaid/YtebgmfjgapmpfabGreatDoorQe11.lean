/- Scanner.End of whatever is left; the reference's ValType, Global, End, whatever its state. -/
import Derived.Test.YtebgmfjgapmpfabGreatDoorQe03
import Derived.Test.YtebgmfjgapmpfabGreatDoorQe10
import Derived.Test.YtebgmfjgapmpfabGreatDoorQe08
import Derived.Test.YtebgmfjgapmpfabGreatDoorQe01
import Derived.Test.YtebgmfjgapmpfabGreatDoorQe05
import Derived.Test.YtebgmfjgapmpfabGreatDoorQe07
namespace Go.Proofs.YtebgmfjgapmpfabGreatDoor
open Go.RowKit
set_option linter.unusedVariables false
set_option maxRecDepth 100000

theorem done_held {w W : World} {p : Nat} {l : List UInt8} {k : Nat} (h : (Sc W p l k ∧ w.grownBy W (some p)) ∧ W.cell? ⟨p, 1, none⟩ = some (.int .i64 k)) (hk : k < l.length) :
    Calls Tryz.prog 103 #[.pointer (some ⟨p, 0, none⟩)] W fun e w' => e = .returned (.bool false) ∧ ((Sc w' p l k ∧ w.grownBy w' (some p)) ∧ w'.cell? ⟨p, 1, none⟩ = some (.int .i64 k)) := by
  have hd := done_any h.1.1
  have e : (((l.length : Int) - k) == 0) = false := by simp; omega
  rw [e] at hd
  refine hd.mono ?_
  rintro e w' ⟨rfl, m, rfl⟩
  exact ⟨rfl, ⟨h.1.1.drewN m, gb_drewN h.1.2 m⟩, h.2⟩
/-- End, where something is left. -/
theorem end_bad {w : World} {p : Nat} {l : List UInt8} {k : Nat} (h : Sc w p l k) (hk : k < l.length) :
    Calls Tryz.prog 69 #[.pointer (some ⟨p, 0, none⟩)] w fun e w' => e = .panicked (stopP 14 k) ∧ w.grownBy w' (some p) := by
  have HS := Lib.hid h
  have c1 := h.at
  clear h
  go_enter Tryz.func69, Tryz.ntmps69
  refine wp_region_held_drew (S := fun W => (Sc W p l k ∧ w.grownBy W (some p)) ∧ W.cell? ⟨p, 1, none⟩ = some (.int .i64 k)) (by kernel_rfl) ⟨⟨HS.out, gb_drew (gb_refl _ _)⟩, c1⟩ (fun hHeld => ?_)
  (refine wpAnyH_take (i := 0) (oi := { dst := some 2, op := Op.move (Operand.tmp 0), type := 36, pos := "scan.go:157", after := #[], guard := none }) (v := ?_) rfl (by kernel_rfl) (by kernel_rfl) (by kernel_rfl) (fun _ _ _ h => h) ?_ (by assumption) ?_; rotate_left; focus (refine .inl ⟨by kernel_rfl, ?_⟩; intro w hSw; (try dsimp only at hSw); go_simp; (try with_reducible rfl)); (try simp only [Act.put, List.setIfInBounds_toArray, List.set_cons_zero, List.set_cons_succ]))
  (refine wpAnyH_take (i := 2) (oi := { dst := some 4, op := Op.move (Operand.tmp 0), type := 36, pos := "scan.go:157", after := #[], guard := none }) (v := ?_) rfl (by kernel_rfl) (by kernel_rfl) (by kernel_rfl) (fun _ _ _ h => h) ?_ (by assumption) ?_; rotate_left; focus (refine .inl ⟨by kernel_rfl, ?_⟩; intro w hSw; (try dsimp only at hSw); go_simp; (try with_reducible rfl)); (try simp only [Act.put, List.setIfInBounds_toArray, List.set_cons_zero, List.set_cons_succ]))
  (refine wpAnyH_take (i := 3) (oi := { dst := some 5, op := Op.nilCheck (Operand.tmp 4), type := 0, pos := "scan.go:157", after := #[{ on := 2, ground := Ground.data }], guard := none }) (v := ?_) rfl (by kernel_rfl) (by kernel_rfl) (by kernel_rfl) (fun _ _ _ h => h) ?_ (by assumption) ?_; rotate_left; focus (refine .inl ⟨by kernel_rfl, ?_⟩; intro w hSw; (try dsimp only at hSw); go_simp; (try with_reducible rfl)); (try simp only [Act.put, List.setIfInBounds_toArray, List.set_cons_zero, List.set_cons_succ]))
  (refine wpAnyH_take (i := 4) (oi := { dst := some 6, op := Op.fieldAddr 76 (Operand.tmp 5) 1, type := 0, pos := "scan.go:157", after := #[{ on := 3, ground := Ground.data }], guard := none }) (v := ?_) rfl (by kernel_rfl) (by kernel_rfl) (by kernel_rfl) (fun _ _ _ h => h) ?_ (by assumption) ?_; rotate_left; focus (refine .inl ⟨by kernel_rfl, ?_⟩; intro w hSw; (try dsimp only at hSw); go_simp; (try with_reducible rfl)); (try simp only [Act.put, List.setIfInBounds_toArray, List.set_cons_zero, List.set_cons_succ]))
  (refine wpAnyH_take (i := 5) (oi := { dst := some 7, op := Op.load 3 (Operand.tmp 6), type := 3, pos := "scan.go:157", after := #[{ on := 4, ground := Ground.data }], guard := none }) (v := ?_) rfl (by kernel_rfl) (by kernel_rfl) (by kernel_rfl) (fun _ _ _ h => h) ?_ (by assumption) ?_; rotate_left; focus (refine .inl ⟨by kernel_rfl, ?_⟩; intro w hSw; (try dsimp only at hSw); go_simp; (try with_reducible rfl)); (try simp only [Act.put, List.setIfInBounds_toArray, List.set_cons_zero, List.set_cons_succ]))
  refine wpAnyH_ready (rs := [1]) (by kernel_rfl) (by simp) ?_
  refine AllReadyH.cons (o := { dst := some 3, op := Op.call { callee := Callee.value (Operand.func 103), args := #[Operand.tmp 2], argTypes := #[36] }, type := 4, pos := "scan.go:157", after := #[{ on := 0, ground := Ground.data }], guard := none }) rfl (fun K hK => ?_) AllReadyH.nil
  go_simp
  (go_at_call 103; (with_reducible refine (done_held hHeld hk).mono ?_); rintro e w' ⟨rfl, hk1⟩)
  refine hK.out _ _ hk1 (fun hHeld1 => ?_)
  clear hK K hHeld
  (try simp only [Act.put, List.setIfInBounds_toArray, List.set_cons_zero, List.set_cons_succ])
  refine wpAnyH_ready (rs := [6]) (by kernel_rfl) (by simp) ?_
  refine AllReadyH.cons (o := { dst := some 8, op := Op.call { callee := Callee.value (Operand.func 75), args := #[Operand.tmp 3, Operand.const (Value.int IntKind.i64 14), Operand.tmp 7], argTypes := #[4, 33, 3] }, type := 0, pos := "scan.go:157", after := #[{ on := 1, ground := Ground.data }, { on := 5, ground := Ground.data }, { on := 1, ground := Ground.chain }], guard := none }) rfl (fun K hK => ?_) AllReadyH.nil
  go_simp
  (go_at_call 75; (with_reducible refine (unlessF _ _ _).mono ?_); rintro e w' ⟨rfl, rfl⟩; exact ⟨rfl, rfl, hHeld1.1.2⟩)

/-- The reference's End. -/
def endS (l : List UInt8) : RSt → RSt
  | .at k => if k < l.length then .bad 14 k else .at k
  | .bad c a => .bad c a
theorem end_ref {w : World} {q : Nat} {l : List UInt8} {s : RSt} (h : Rs w q l s) :
    Calls Tryz.prog 46 #[.pointer (some ⟨q, 0, none⟩)] w fun e w' => e = .returned (.tuple #[]) ∧ Rs w' q l (endS l s) ∧ w.grownBy w' (some q) := by
  cases s with
  | bad c a =>
    show Calls _ _ _ _ fun e w' => e = .returned (.tuple #[]) ∧ Rs w' q l (.bad c a) ∧ w.grownBy w' (some q)
    have HR := Lib.hid h
    obtain ⟨A, cap, j, h1, _, _, _, hn⟩ := h.badly
    have g2 := h1.cell 2
    simp only [List.getElem?_toArray, List.getElem?_cons_zero, List.getElem?_cons_succ] at g2
    have d : (c == 0) = false := by simpa using hn
    clear h h1 hn
    go_enter Tryz.func46, Tryz.ntmps46
    go_wp2
    go_quiet (fail)
    go_wp2
    go_end0
    exact ⟨rfl, HR.out.drewN _, gb_drewN (gb_refl w _) _⟩
  | «at» k =>
    have HS := Lib.hid h
    obtain ⟨A, cap, h1, h2, h3, h4, h5⟩ := h.good
    have h4' := h4
    unfold maxLen at h4'
    have c0 := h1.cell 0
    have c1 := h1.cell 1
    have c2 := h1.cell 2
    simp only [List.getElem?_toArray, List.getElem?_cons_zero, List.getElem?_cons_succ] at c0 c1 c2
    by_cases hk : k < l.length
    · show Calls _ _ _ _ fun e w' => e = .returned (.tuple #[]) ∧ Rs w' q l (if k < l.length then .bad 14 k else .at k) ∧ w.grownBy w' (some q)
      rw [if_pos hk]
      have d2 : decide ((k : Int) < (l.length : Int)) = true := by simp; omega
      have HF := Lib.hid (fun n => show Calls Tryz.prog 86 #[.pointer (some ⟨q, 0, none⟩), .int .i64 14, .int .i64 k] (w.drewN n) fun e w' => e = .returned (.tuple #[]) ∧ Rs w' q l (.bad 14 k) ∧ (w.drewN n).grownBy w' (some q) from fail_ref (HS.out.drewN n) 14 k (by decide))
      clear h h1 h2
      go_enter Tryz.func46, Tryz.ntmps46
      go_wp2
      go_quiet (fail)
      go_wp2_with (go_at_call 86; go_must ((with_reducible refine (HF.out _).mono ?_); rintro e w1 ⟨rfl, hs, hg⟩; have HS1 := Lib.hid hs; have HG1 := Lib.hid hg; clear hs hg))
      go_end0
      exact ⟨rfl, HS1.out, gb_trans (gb_drewN (gb_refl w _) _) HG1.out⟩
    · show Calls _ _ _ _ fun e w' => e = .returned (.tuple #[]) ∧ Rs w' q l (if k < l.length then .bad 14 k else .at k) ∧ w.grownBy w' (some q)
      rw [if_neg hk]
      have d2 : decide ((k : Int) < (l.length : Int)) = false := by simp; omega
      clear h h1 h2
      go_enter Tryz.func46, Tryz.ntmps46
      go_wp2
      go_quiet (fail)
      go_wp2
      go_end0
      exact ⟨rfl, HS.out.drewN _, gb_drewN (gb_refl w _) _⟩

/-- A type of values; behind an error any byte. -/
def ValP (q : Nat) (l : List UInt8) (r : Res UInt8) (w : World) (e : Ending) (w' : World) : Prop :=
  ∃ v : UInt8, e = .returned (.int .u8 v.toNat) ∧ Rs w' q l (stOf r) ∧ (∀ c k, r = .ok c k → v = c) ∧ w.grownBy w' (some q)
end Go.Proofs.YtebgmfjgapmpfabGreatDoor

/- The reference's constant expression of any bytes. (By gen/genRefC.py.) -/
namespace Go.Proofs.YtebgmfjgapmpfabGreatDoor
open Go.RowKit
set_option linter.unusedVariables false
set_option maxRecDepth 100000

/-- How far the reference's reader of constant expressions has come. -/
structure RcS (w : World) (q : Nat) (l : List UInt8) (H2 : Nat) (A : Option Addr) (ls : List Int) (s : RSt) (v0 v1 v2 v3 : Value) (W : World) : Prop where
  res : Whole W w.heap.size 59 #[.int .u8 0, .int .u64 0, .int .u64 0, .slice none 0 0]
  box : Whole W H2 59 #[v0, v1, v2, v3]
  rs : Rs W q l s
  gr : w.grownBy W (some q)
  hq : q < w.heap.size
  h2 : w.heap.size < H2
  lab : Lies W W.heap.size A (cells32 ls)
  far : ∀ a, A = some a → w.heap.size < a.block
section
variable {w : World} {q : Nat} {l : List UInt8} {H2 : Nat} {A : Option Addr} {ls : List Int} {s s' : RSt} {v0 v1 v2 v3 : Value} {W W' : World}
theorem RcS.call (h : RcS w q l H2 A ls s v0 v1 v2 v3 W) (hs : Rs W' q l s') (hg : W.grownBy W' (some q)) : RcS w q l H2 A ls s' v0 v1 v2 v3 W' := by
  have a := h.hq
  have b := h.h2
  exact ⟨h.res.grown hg (by simp only [ne_eq, Option.some.injEq]; omega), h.box.grown hg (by simp only [ne_eq, Option.some.injEq]; omega), hs, gb_trans h.gr hg, h.hq, h.h2, h.lab.keep hg (fun x hx => by have := h.far x hx; omega), h.far⟩
theorem RcS.below (h : RcS w q l H2 A ls s v0 v1 v2 v3 W) (hb : Below W.heap.size W W') : RcS w q l H2 A ls s v0 v1 v2 v3 W' := h.call (h.rs.below hb) (gb_of_below _ hb)
theorem RcS.fin (h : RcS w q l H2 A ls s v0 v1 v2 v3 W) (x0 x1 x2 x3 : Value) (W4 : World) (hW : W4 = (((W.setCell ⟨w.heap.size, 0, none⟩ x0).setCell ⟨w.heap.size, 1, none⟩ x1).setCell ⟨w.heap.size, 2, none⟩ x2).setCell ⟨w.heap.size, 3, none⟩ x3) :
    Whole W4 w.heap.size 59 #[x0, x1, x2, x3] ∧ Rs W4 q l s ∧ w.grownBy W4 (some q) ∧ Lies W4 W4.heap.size A (cells32 ls) := by
  subst hW
  have a := h.hq
  have b := h.h2
  have hg := gb_put (p := ⟨w.heap.size, 3, none⟩) (gb_put (p := ⟨w.heap.size, 2, none⟩) (gb_put (p := ⟨w.heap.size, 1, none⟩) (gb_put (p := ⟨w.heap.size, 0, none⟩) (gb_refl W (some w.heap.size)) (.inl rfl) x0) (.inl rfl) x1) (.inl rfl) x2) (.inl rfl) x3
  exact ⟨(((h.res.put 0 x0).put 1 x1).put 2 x2).put 3 x3, h.rs.grown hg (by simp only [ne_eq, Option.some.injEq]; omega) (fun g e => by injection e with e; omega), gb_before h.gr hg (fun g e => .inr (by injection e with e; omega)), h.lab.keep hg (fun x hx => by have := h.far x hx; omega)⟩
end
theorem rc_ok {w : World} {q : Nat} {l : List UInt8} {i : I} {H2 : Nat} {A : Option Addr} {c k : Nat} {v0 v1 v2 v3 : Value} {W W4 : World} (h : RcS w q l H2 A i.l (.at k) v0 v1 v2 v3 W) (hf : Rs W4 q l (.at k) ∧ w.grownBy W4 (some q) ∧ Lies W4 W4.heap.size A (cells32 i.l)) :
    RGets q l (.ok i k) w (.returned (insV i A c)) W4 := ⟨A, c, rfl, hf.2.2, fun a ha => by have := h.far a ha; omega, hf.1, hf.2.1⟩
set_option maxHeartbeats 4000000 in
theorem refC_any {w : World} {q : Nat} {l : List UInt8} {k : Nat} (h : Rs w q l (.at k)) :
    Calls Tryz.prog 88 #[.pointer (some ⟨q, 0, none⟩)] w (RGets q l (readR l k) w) := by
  have hlt := h.lt
  have HZ := Lib.hid (h.alloc (.cells #[.int .u8 0, .int .u64 0, .int .u64 0, .slice none 0 0] 59))
  have y1 := at_at HZ.out
  have hG := refG_any HZ.out
  have HWM := Lib.hid (Whole.made w 59 #[.int .u8 0, .int .u64 0, .int .u64 0, .slice none 0 0])
  have hstart : ∀ (A : Option Addr) (ls : List Int) (s : RSt) (v0 v1 v2 v3 : Value) w1, Rs w1 q l s → (w.alloc (.cells #[.int .u8 0, .int .u64 0, .int .u64 0, .slice none 0 0] 59)).grownBy w1 (some q) → Lies w1 w1.heap.size A (cells32 ls) → (∀ a, A = some a → (w.alloc (.cells #[.int .u8 0, .int .u64 0, .int .u64 0, .slice none 0 0] 59)).heap.size ≤ a.block) →
      RcS w q l w1.heap.size A ls s v0 v1 v2 v3 (w1.alloc (.cells #[v0, v1, v2, v3] 59)) := fun A ls s v0 v1 v2 v3 w1 hs1 hg1 hla hfar => by
    have hz := hg1.size
    rw [size_box] at hz
    exact ⟨(HWM.out.grown hg1 (by simp only [ne_eq, Option.some.injEq]; omega)).alloc _, Whole.made _ _ _, hs1.alloc _, gb_alloc (gb_trans (gb_alloc (gb_refl w _) _) hg1) _, hlt, by omega, lies_box hla _, fun a ha => by have := hfar a ha; rw [size_box] at this; omega⟩
  have HST := Lib.hid hstart
  have HFB := Lib.hid (fun (W : World) (c a x y : Int) (h : Rs W q l (.bad c a)) (hx : x ≠ 0) => show Calls Tryz.prog 86 #[.pointer (some ⟨q, 0, none⟩), .int .i64 x, .int .i64 y] W fun e w' => e = .returned (.tuple #[]) ∧ Rs w' q l (.bad c a) ∧ W.grownBy w' (some q) from fail_ref h x y hx)
  have HBB := Lib.hid (fun (W : World) (c a : Int) (h : Rs W q l (.bad c a)) => show Calls Tryz.prog 87 #[.pointer (some ⟨q, 0, none⟩)] W fun e w' => e = .returned (.int .i64 0) ∧ Rs w' q l (.bad c a) ∧ W.grownBy w' (some q) from byte_ref h)
  have h12 : (12 : Int) ≠ 0 := by decide
  unfold readR
  cases hr : getR l k with
  | err ec ea =>
    rw [hr] at hG
    rw [Res.bind_err]
    have HG := Lib.hid (show Calls Tryz.prog 120 #[.pointer (some ⟨q, 0, none⟩)] (w.alloc (.cells #[.int .u8 0, .int .u64 0, .int .u64 0, .slice none 0 0] 59)) fun e w' => e = .returned (.agg #[.int .u8 0, .int .u64 0, .int .u64 0, .slice none 0 0]) ∧ Rs w' q l (.bad ec ea) ∧ (w.alloc (.cells #[.int .u8 0, .int .u64 0, .int .u64 0, .slice none 0 0] 59)).grownBy w' (some q) from hG)
    have hne : ∀ W, Rs W q l (.bad ec ea) → (ec != 0) = true ∧ (ec == 0) = false := fun W h => ⟨by simpa using h.nz, by simpa using h.nz⟩
    have HNE := Lib.hid hne
    clear h hG hr hstart hne HZ
    go_enter Tryz.func88, Tryz.ntmps88
    go_wp2_with (first
      | (go_at_call 120; go_must ((with_reducible refine HG.out.mono ?_); rintro e w1 ⟨rfl, hs, hg⟩; obtain ⟨dw, dw2⟩ := HNE.out _ hs; have HG1 := Lib.hid (HST.out none [] (.bad ec ea) (.int .u8 0) (.int .u64 0) (.int .u64 0) (.slice none 0 0) w1 hs hg (fun j v hv => by simp [cells32] at hv) (fun a e => by cases e)); have hh := HG1.out.h2; have hqq := HG1.out.hq; have n1 : ¬ w1.heap.size = w.heap.size := (by omega); have n2 : ¬ w.heap.size = w1.heap.size := (by omega); have n3 : ¬ w1.heap.size = q := (by omega); have n4 : ¬ q = w1.heap.size := (by omega); clear hh hqq; have c0 := HG1.out.box.cell 0; have c1 := HG1.out.box.cell 1; have c2 := HG1.out.box.cell 2; have c3 := HG1.out.box.cell 3; have r0 := HG1.out.res.cell 0; have r1 := HG1.out.res.cell 1; have r2 := HG1.out.res.cell 2; have r3 := HG1.out.res.cell 3; have z0 := HG1.out.res.frozen 0; have z1 := HG1.out.res.frozen 1; have z2 := HG1.out.res.frozen 2; have z3 := HG1.out.res.frozen 3; simp only [List.getElem?_toArray, List.getElem?_cons_zero, List.getElem?_cons_succ] at c0 c1 c2 c3 r0 r1 r2 r3; obtain ⟨jat1, x1⟩ := at_bad HG1.out.rs; have x2 := why_bad HG1.out.rs; clear hs hg y1))
      | (go_at_call 87; go_must ((with_reducible refine (HBB.out _ ec ea HG1.out.rs).mono ?_); rintro e w2 ⟨rfl, hs, hg⟩; clear c0 c1 c2 c3 r0 r1 r2 r3 z0 z1 z2 z3 x1 x2; have HG2 := Lib.hid (HG1.out.call hs hg); have c0 := HG2.out.box.cell 0; have c1 := HG2.out.box.cell 1; have c2 := HG2.out.box.cell 2; have c3 := HG2.out.box.cell 3; have r0 := HG2.out.res.cell 0; have r1 := HG2.out.res.cell 1; have r2 := HG2.out.res.cell 2; have r3 := HG2.out.res.cell 3; have z0 := HG2.out.res.frozen 0; have z1 := HG2.out.res.frozen 1; have z2 := HG2.out.res.frozen 2; have z3 := HG2.out.res.frozen 3; simp only [List.getElem?_toArray, List.getElem?_cons_zero, List.getElem?_cons_succ] at c0 c1 c2 c3 r0 r1 r2 r3; obtain ⟨jat2, x1⟩ := at_bad HG2.out.rs; have x2 := why_bad HG2.out.rs; clear hs hg))
      | (go_at_call 86; go_must ((with_reducible refine (HFB.out _ ec ea 12 _ HG2.out.rs h12).mono ?_); rintro e w3 ⟨rfl, hs, hg⟩; clear c0 c1 c2 c3 r0 r1 r2 r3 z0 z1 z2 z3 x1 x2; have HG3 := Lib.hid (HG2.out.call hs hg); have c0 := HG3.out.box.cell 0; have c1 := HG3.out.box.cell 1; have c2 := HG3.out.box.cell 2; have c3 := HG3.out.box.cell 3; have r0 := HG3.out.res.cell 0; have r1 := HG3.out.res.cell 1; have r2 := HG3.out.res.cell 2; have r3 := HG3.out.res.cell 3; have z0 := HG3.out.res.frozen 0; have z1 := HG3.out.res.frozen 1; have z2 := HG3.out.res.frozen 2; have z3 := HG3.out.res.frozen 3; simp only [List.getElem?_toArray, List.getElem?_cons_zero, List.getElem?_cons_succ] at c0 c1 c2 c3 r0 r1 r2 r3; obtain ⟨jat3, x1⟩ := at_bad HG3.out.rs; have x2 := why_bad HG3.out.rs; clear hs hg)))
    obtain ⟨q4, hf⟩ := HG3.out.fin (.int .u8 0) (.int .u64 0) (.int .u64 0) (.slice none 0 0) _ rfl
    have q0 := q4.cell 0
    have q1 := q4.cell 1
    have q2 := q4.cell 2
    have q3 := q4.cell 3
    simp only [List.getElem?_toArray, List.getElem?_cons_zero, List.getElem?_cons_succ] at q0 q1 q2 q3
    exact bodyPost_ret (v := .agg #[.int .u8 0, .int .u64 0, .int .u64 0, .slice none 0 0]) (by simp [results, Tryz.results88, go_sem, q0, q1, q2, q3]) rfl (rgets_no hf)
  | ok i k1 =>
    rw [hr] at hG
    rw [Res.bind_ok]
    obtain ⟨oi, hl10, hk1⟩ := getR_ok hr
    have HG := Lib.hid (show Calls Tryz.prog 120 #[.pointer (some ⟨q, 0, none⟩)] (w.alloc (.cells #[.int .u8 0, .int .u64 0, .int .u64 0, .slice none 0 0] 59)) fun e w' => ∃ A c, e = .returned (insV i A c) ∧ Lies w' w'.heap.size A (cells32 i.l) ∧ (∀ a, A = some a → (w.alloc (.cells #[.int .u8 0, .int .u64 0, .int .u64 0, .slice none 0 0] 59)).heap.size ≤ a.block) ∧ Rs w' q l (.at k1) ∧ (w.alloc (.cells #[.int .u8 0, .int .u64 0, .int .u64 0, .slice none 0 0] 59)).grownBy w' (some q) from hG)
    have HCR := Lib.hid (fun W (A : Option Addr) (c : Nat) => rcright_any i A c W oi (by omega))
    clear h hG hr hstart hl10 hk1 oi HZ
    obtain ⟨z, hz⟩ : ∃ z, z = crightZ i := ⟨_, rfl⟩
    rw [← hz] at HCR ⊢
    clear hz
    by_cases h0 : z = 0
    · subst h0
      rw [if_pos rfl]
      cases hb : byteR l k1 with
      | err ec ea =>
        rw [Res.bind_err]
        have HX := Lib.hid (fun W (h : Rs W q l (.at k1)) => show Calls Tryz.prog 87 #[.pointer (some ⟨q, 0, none⟩)] W fun e w' => e = .returned (.int .i64 0) ∧ Rs w' q l (.bad ec ea) ∧ W.grownBy w' (some q) from by have := byte_ref h; rw [show (RSt.at k1).bind (byteR l) = byteR l k1 from rfl, hb] at this; exact this)
        have dw : (ec != 0) = true := by have := byteR_nz hb; simpa using this
        have dw2 : (ec == 0) = false := by have := byteR_nz hb; simpa using this
        clear hb
        go_enter Tryz.func88, Tryz.ntmps88
        go_wp2_with (first
          | (go_at_call 120; go_must ((with_reducible refine HG.out.mono ?_); intro e w1 hqq; obtain ⟨A, c, rfl, hla, hfar, hs, hg⟩ := hqq; have HG1 := Lib.hid (HST.out A i.l (.at k1) (.int .u8 i.op.toNat) (.int .u64 i.a) (.int .u64 i.b) (.slice A i.l.length c) w1 hs hg hla hfar); have hh := HG1.out.h2; have hqq := HG1.out.hq; have n1 : ¬ w1.heap.size = w.heap.size := (by omega); have n2 : ¬ w.heap.size = w1.heap.size := (by omega); have n3 : ¬ w1.heap.size = q := (by omega); have n4 : ¬ q = w1.heap.size := (by omega); clear hh hqq; have c0 := HG1.out.box.cell 0; have c1 := HG1.out.box.cell 1; have c2 := HG1.out.box.cell 2; have c3 := HG1.out.box.cell 3; have r0 := HG1.out.res.cell 0; have r1 := HG1.out.res.cell 1; have r2 := HG1.out.res.cell 2; have r3 := HG1.out.res.cell 3; have z0 := HG1.out.res.frozen 0; have z1 := HG1.out.res.frozen 1; have z2 := HG1.out.res.frozen 2; have z3 := HG1.out.res.frozen 3; simp only [List.getElem?_toArray, List.getElem?_cons_zero, List.getElem?_cons_succ] at c0 c1 c2 c3 r0 r1 r2 r3; have x1 := at_at HG1.out.rs; have x2 := why_at HG1.out.rs; clear hs hg hla hfar y1))
          | (go_at_call 48; go_must ((with_reducible refine (HCR.out _ _ _).mono ?_); rintro e w2 ⟨rfl, hb⟩; clear c0 c1 c2 c3 r0 r1 r2 r3 z0 z1 z2 z3 x1 x2; have HG2 := Lib.hid (HG1.out.below hb); have c0 := HG2.out.box.cell 0; have c1 := HG2.out.box.cell 1; have c2 := HG2.out.box.cell 2; have c3 := HG2.out.box.cell 3; have r0 := HG2.out.res.cell 0; have r1 := HG2.out.res.cell 1; have r2 := HG2.out.res.cell 2; have r3 := HG2.out.res.cell 3; have z0 := HG2.out.res.frozen 0; have z1 := HG2.out.res.frozen 1; have z2 := HG2.out.res.frozen 2; have z3 := HG2.out.res.frozen 3; simp only [List.getElem?_toArray, List.getElem?_cons_zero, List.getElem?_cons_succ] at c0 c1 c2 c3 r0 r1 r2 r3; have x1 := at_at HG2.out.rs; have x2 := why_at HG2.out.rs; clear hb))
          | (go_at_call 87; go_must ((with_reducible refine (HX.out _ HG2.out.rs).mono ?_); rintro e w3 ⟨rfl, hs, hg⟩; clear c0 c1 c2 c3 r0 r1 r2 r3 z0 z1 z2 z3 x1 x2; have HG3 := Lib.hid (HG2.out.call hs hg); have c0 := HG3.out.box.cell 0; have c1 := HG3.out.box.cell 1; have c2 := HG3.out.box.cell 2; have c3 := HG3.out.box.cell 3; have r0 := HG3.out.res.cell 0; have r1 := HG3.out.res.cell 1; have r2 := HG3.out.res.cell 2; have r3 := HG3.out.res.cell 3; have z0 := HG3.out.res.frozen 0; have z1 := HG3.out.res.frozen 1; have z2 := HG3.out.res.frozen 2; have z3 := HG3.out.res.frozen 3; simp only [List.getElem?_toArray, List.getElem?_cons_zero, List.getElem?_cons_succ] at c0 c1 c2 c3 r0 r1 r2 r3; obtain ⟨jat3, x1⟩ := at_bad HG3.out.rs; have x2 := why_bad HG3.out.rs; clear hs hg))
          | (go_at_call 86; go_must ((with_reducible refine (HFB.out _ ec ea 12 _ HG3.out.rs h12).mono ?_); rintro e w4 ⟨rfl, hs, hg⟩; clear c0 c1 c2 c3 r0 r1 r2 r3 z0 z1 z2 z3 x1 x2; have HG4 := Lib.hid (HG3.out.call hs hg); have c0 := HG4.out.box.cell 0; have c1 := HG4.out.box.cell 1; have c2 := HG4.out.box.cell 2; have c3 := HG4.out.box.cell 3; have r0 := HG4.out.res.cell 0; have r1 := HG4.out.res.cell 1; have r2 := HG4.out.res.cell 2; have r3 := HG4.out.res.cell 3; have z0 := HG4.out.res.frozen 0; have z1 := HG4.out.res.frozen 1; have z2 := HG4.out.res.frozen 2; have z3 := HG4.out.res.frozen 3; simp only [List.getElem?_toArray, List.getElem?_cons_zero, List.getElem?_cons_succ] at c0 c1 c2 c3 r0 r1 r2 r3; obtain ⟨jat4, x1⟩ := at_bad HG4.out.rs; have x2 := why_bad HG4.out.rs; clear hs hg)))
        obtain ⟨q4, hf⟩ := HG4.out.fin (.int .u8 0) (.int .u64 0) (.int .u64 0) (.slice none 0 0) _ rfl
        have q0 := q4.cell 0
        have q1 := q4.cell 1
        have q2 := q4.cell 2
        have q3 := q4.cell 3
        simp only [List.getElem?_toArray, List.getElem?_cons_zero, List.getElem?_cons_succ] at q0 q1 q2 q3
        exact bodyPost_ret (v := .agg #[.int .u8 0, .int .u64 0, .int .u64 0, .slice none 0 0]) (by simp [results, Tryz.results88, go_sem, q0, q1, q2, q3]) rfl (rgets_no hf)
      | ok d k2 =>
        rw [Res.bind_ok]
        have HX := Lib.hid (fun W (h : Rs W q l (.at k1)) => show Calls Tryz.prog 87 #[.pointer (some ⟨q, 0, none⟩)] W fun e w' => e = .returned (.int .i64 d.toNat) ∧ Rs w' q l (.at k2) ∧ W.grownBy w' (some q) from by have := byte_ref h; rw [show (RSt.at k1).bind (byteR l) = byteR l k1 from rfl, hb] at this; exact this)
        clear hb
        by_cases hd : d = 11
        · rw [if_pos hd]
          have dd : ((d.toNat : Int) != 11) = false := by rw [hd]; rfl
          clear hd
          go_enter Tryz.func88, Tryz.ntmps88
          go_wp2_with (first
            | (go_at_call 120; go_must ((with_reducible refine HG.out.mono ?_); intro e w1 hqq; obtain ⟨A, c, rfl, hla, hfar, hs, hg⟩ := hqq; have HG1 := Lib.hid (HST.out A i.l (.at k1) (.int .u8 i.op.toNat) (.int .u64 i.a) (.int .u64 i.b) (.slice A i.l.length c) w1 hs hg hla hfar); have hh := HG1.out.h2; have hqq := HG1.out.hq; have n1 : ¬ w1.heap.size = w.heap.size := (by omega); have n2 : ¬ w.heap.size = w1.heap.size := (by omega); have n3 : ¬ w1.heap.size = q := (by omega); have n4 : ¬ q = w1.heap.size := (by omega); clear hh hqq; have c0 := HG1.out.box.cell 0; have c1 := HG1.out.box.cell 1; have c2 := HG1.out.box.cell 2; have c3 := HG1.out.box.cell 3; have r0 := HG1.out.res.cell 0; have r1 := HG1.out.res.cell 1; have r2 := HG1.out.res.cell 2; have r3 := HG1.out.res.cell 3; have z0 := HG1.out.res.frozen 0; have z1 := HG1.out.res.frozen 1; have z2 := HG1.out.res.frozen 2; have z3 := HG1.out.res.frozen 3; simp only [List.getElem?_toArray, List.getElem?_cons_zero, List.getElem?_cons_succ] at c0 c1 c2 c3 r0 r1 r2 r3; have x1 := at_at HG1.out.rs; have x2 := why_at HG1.out.rs; clear hs hg hla hfar y1))
            | (go_at_call 48; go_must ((with_reducible refine (HCR.out _ _ _).mono ?_); rintro e w2 ⟨rfl, hb⟩; clear c0 c1 c2 c3 r0 r1 r2 r3 z0 z1 z2 z3 x1 x2; have HG2 := Lib.hid (HG1.out.below hb); have c0 := HG2.out.box.cell 0; have c1 := HG2.out.box.cell 1; have c2 := HG2.out.box.cell 2; have c3 := HG2.out.box.cell 3; have r0 := HG2.out.res.cell 0; have r1 := HG2.out.res.cell 1; have r2 := HG2.out.res.cell 2; have r3 := HG2.out.res.cell 3; have z0 := HG2.out.res.frozen 0; have z1 := HG2.out.res.frozen 1; have z2 := HG2.out.res.frozen 2; have z3 := HG2.out.res.frozen 3; simp only [List.getElem?_toArray, List.getElem?_cons_zero, List.getElem?_cons_succ] at c0 c1 c2 c3 r0 r1 r2 r3; have x1 := at_at HG2.out.rs; have x2 := why_at HG2.out.rs; clear hb))
            | (go_at_call 87; go_must ((with_reducible refine (HX.out _ HG2.out.rs).mono ?_); rintro e w3 ⟨rfl, hs, hg⟩; clear c0 c1 c2 c3 r0 r1 r2 r3 z0 z1 z2 z3 x1 x2; have HG3 := Lib.hid (HG2.out.call hs hg); have c0 := HG3.out.box.cell 0; have c1 := HG3.out.box.cell 1; have c2 := HG3.out.box.cell 2; have c3 := HG3.out.box.cell 3; have r0 := HG3.out.res.cell 0; have r1 := HG3.out.res.cell 1; have r2 := HG3.out.res.cell 2; have r3 := HG3.out.res.cell 3; have z0 := HG3.out.res.frozen 0; have z1 := HG3.out.res.frozen 1; have z2 := HG3.out.res.frozen 2; have z3 := HG3.out.res.frozen 3; simp only [List.getElem?_toArray, List.getElem?_cons_zero, List.getElem?_cons_succ] at c0 c1 c2 c3 r0 r1 r2 r3; have x1 := at_at HG3.out.rs; have x2 := why_at HG3.out.rs; clear hs hg)))
          obtain ⟨q4, hf⟩ := HG3.out.fin (.int .u8 i.op.toNat) (.int .u64 i.a) (.int .u64 i.b) (.slice A i.l.length c) _ rfl
          have q0 := q4.cell 0
          have q1 := q4.cell 1
          have q2 := q4.cell 2
          have q3 := q4.cell 3
          simp only [List.getElem?_toArray, List.getElem?_cons_zero, List.getElem?_cons_succ] at q0 q1 q2 q3
          exact bodyPost_ret (v := insV i A c) (by simp [results, Tryz.results88, go_sem, q0, q1, q2, q3]) rfl (rc_ok HG3.out hf)
        · rw [if_neg hd]
          have dd : ((d.toNat : Int) != 11) = true := by
            have : d.toNat ≠ 11 := fun e => hd (UInt8.toNat_inj.1 (by rw [e]; rfl))
            simp; omega
          have HF := Lib.hid (fun W (h : Rs W q l (.at k2)) => show Calls Tryz.prog 86 #[.pointer (some ⟨q, 0, none⟩), .int .i64 12, .int .i64 k1] W fun e w' => e = .returned (.tuple #[]) ∧ Rs w' q l (.bad 12 k1) ∧ W.grownBy w' (some q) from fail_ref h 12 k1 h12)
          clear hd
          go_enter Tryz.func88, Tryz.ntmps88
          go_wp2_with (first
            | (go_at_call 120; go_must ((with_reducible refine HG.out.mono ?_); intro e w1 hqq; obtain ⟨A, c, rfl, hla, hfar, hs, hg⟩ := hqq; have HG1 := Lib.hid (HST.out A i.l (.at k1) (.int .u8 i.op.toNat) (.int .u64 i.a) (.int .u64 i.b) (.slice A i.l.length c) w1 hs hg hla hfar); have hh := HG1.out.h2; have hqq := HG1.out.hq; have n1 : ¬ w1.heap.size = w.heap.size := (by omega); have n2 : ¬ w.heap.size = w1.heap.size := (by omega); have n3 : ¬ w1.heap.size = q := (by omega); have n4 : ¬ q = w1.heap.size := (by omega); clear hh hqq; have c0 := HG1.out.box.cell 0; have c1 := HG1.out.box.cell 1; have c2 := HG1.out.box.cell 2; have c3 := HG1.out.box.cell 3; have r0 := HG1.out.res.cell 0; have r1 := HG1.out.res.cell 1; have r2 := HG1.out.res.cell 2; have r3 := HG1.out.res.cell 3; have z0 := HG1.out.res.frozen 0; have z1 := HG1.out.res.frozen 1; have z2 := HG1.out.res.frozen 2; have z3 := HG1.out.res.frozen 3; simp only [List.getElem?_toArray, List.getElem?_cons_zero, List.getElem?_cons_succ] at c0 c1 c2 c3 r0 r1 r2 r3; have x1 := at_at HG1.out.rs; have x2 := why_at HG1.out.rs; clear hs hg hla hfar y1))
            | (go_at_call 48; go_must ((with_reducible refine (HCR.out _ _ _).mono ?_); rintro e w2 ⟨rfl, hb⟩; clear c0 c1 c2 c3 r0 r1 r2 r3 z0 z1 z2 z3 x1 x2; have HG2 := Lib.hid (HG1.out.below hb); have c0 := HG2.out.box.cell 0; have c1 := HG2.out.box.cell 1; have c2 := HG2.out.box.cell 2; have c3 := HG2.out.box.cell 3; have r0 := HG2.out.res.cell 0; have r1 := HG2.out.res.cell 1; have r2 := HG2.out.res.cell 2; have r3 := HG2.out.res.cell 3; have z0 := HG2.out.res.frozen 0; have z1 := HG2.out.res.frozen 1; have z2 := HG2.out.res.frozen 2; have z3 := HG2.out.res.frozen 3; simp only [List.getElem?_toArray, List.getElem?_cons_zero, List.getElem?_cons_succ] at c0 c1 c2 c3 r0 r1 r2 r3; have x1 := at_at HG2.out.rs; have x2 := why_at HG2.out.rs; clear hb))
            | (go_at_call 87; go_must ((with_reducible refine (HX.out _ HG2.out.rs).mono ?_); rintro e w3 ⟨rfl, hs, hg⟩; clear c0 c1 c2 c3 r0 r1 r2 r3 z0 z1 z2 z3 x1 x2; have HG3 := Lib.hid (HG2.out.call hs hg); have c0 := HG3.out.box.cell 0; have c1 := HG3.out.box.cell 1; have c2 := HG3.out.box.cell 2; have c3 := HG3.out.box.cell 3; have r0 := HG3.out.res.cell 0; have r1 := HG3.out.res.cell 1; have r2 := HG3.out.res.cell 2; have r3 := HG3.out.res.cell 3; have z0 := HG3.out.res.frozen 0; have z1 := HG3.out.res.frozen 1; have z2 := HG3.out.res.frozen 2; have z3 := HG3.out.res.frozen 3; simp only [List.getElem?_toArray, List.getElem?_cons_zero, List.getElem?_cons_succ] at c0 c1 c2 c3 r0 r1 r2 r3; have x1 := at_at HG3.out.rs; have x2 := why_at HG3.out.rs; clear hs hg))
            | (go_at_call 86; go_must ((with_reducible refine (HF.out _ HG3.out.rs).mono ?_); rintro e w4 ⟨rfl, hs, hg⟩; clear c0 c1 c2 c3 r0 r1 r2 r3 z0 z1 z2 z3 x1 x2; have HG4 := Lib.hid (HG3.out.call hs hg); have c0 := HG4.out.box.cell 0; have c1 := HG4.out.box.cell 1; have c2 := HG4.out.box.cell 2; have c3 := HG4.out.box.cell 3; have r0 := HG4.out.res.cell 0; have r1 := HG4.out.res.cell 1; have r2 := HG4.out.res.cell 2; have r3 := HG4.out.res.cell 3; have z0 := HG4.out.res.frozen 0; have z1 := HG4.out.res.frozen 1; have z2 := HG4.out.res.frozen 2; have z3 := HG4.out.res.frozen 3; simp only [List.getElem?_toArray, List.getElem?_cons_zero, List.getElem?_cons_succ] at c0 c1 c2 c3 r0 r1 r2 r3; obtain ⟨jat4, x1⟩ := at_bad HG4.out.rs; have x2 := why_bad HG4.out.rs; clear hs hg)))
          obtain ⟨q4, hf⟩ := HG4.out.fin (.int .u8 0) (.int .u64 0) (.int .u64 0) (.slice none 0 0) _ rfl
          have q0 := q4.cell 0
          have q1 := q4.cell 1
          have q2 := q4.cell 2
          have q3 := q4.cell 3
          simp only [List.getElem?_toArray, List.getElem?_cons_zero, List.getElem?_cons_succ] at q0 q1 q2 q3
          exact bodyPost_ret (v := .agg #[.int .u8 0, .int .u64 0, .int .u64 0, .slice none 0 0]) (by simp [results, Tryz.results88, go_sem, q0, q1, q2, q3]) rfl (rgets_no hf)
    · rw [if_neg h0]
      have dz : (z != 0) = true := by simpa using h0
      have dz2 : (z == 0) = false := by simpa using h0
      have HF := Lib.hid (fun W (h : Rs W q l (.at k1)) => show Calls Tryz.prog 86 #[.pointer (some ⟨q, 0, none⟩), .int .i64 z, .int .i64 k] W fun e w' => e = .returned (.tuple #[]) ∧ Rs w' q l (.bad z k) ∧ W.grownBy w' (some q) from fail_ref h z k h0)
      clear h0
      go_enter Tryz.func88, Tryz.ntmps88
      go_wp2_with (first
        | (go_at_call 120; go_must ((with_reducible refine HG.out.mono ?_); intro e w1 hqq; obtain ⟨A, c, rfl, hla, hfar, hs, hg⟩ := hqq; have HG1 := Lib.hid (HST.out A i.l (.at k1) (.int .u8 i.op.toNat) (.int .u64 i.a) (.int .u64 i.b) (.slice A i.l.length c) w1 hs hg hla hfar); have hh := HG1.out.h2; have hqq := HG1.out.hq; have n1 : ¬ w1.heap.size = w.heap.size := (by omega); have n2 : ¬ w.heap.size = w1.heap.size := (by omega); have n3 : ¬ w1.heap.size = q := (by omega); have n4 : ¬ q = w1.heap.size := (by omega); clear hh hqq; have c0 := HG1.out.box.cell 0; have c1 := HG1.out.box.cell 1; have c2 := HG1.out.box.cell 2; have c3 := HG1.out.box.cell 3; have r0 := HG1.out.res.cell 0; have r1 := HG1.out.res.cell 1; have r2 := HG1.out.res.cell 2; have r3 := HG1.out.res.cell 3; have z0 := HG1.out.res.frozen 0; have z1 := HG1.out.res.frozen 1; have z2 := HG1.out.res.frozen 2; have z3 := HG1.out.res.frozen 3; simp only [List.getElem?_toArray, List.getElem?_cons_zero, List.getElem?_cons_succ] at c0 c1 c2 c3 r0 r1 r2 r3; have x1 := at_at HG1.out.rs; have x2 := why_at HG1.out.rs; clear hs hg hla hfar y1))
        | (have tok := HG2; go_at_call 48; go_must ((with_reducible refine (HCR.out _ _ _).mono ?_); rintro e w3 ⟨rfl, hb⟩; clear c0 c1 c2 c3 r0 r1 r2 r3 z0 z1 z2 z3 x1 x2; have HG3 := Lib.hid (HG2.out.below hb); have c0 := HG3.out.box.cell 0; have c1 := HG3.out.box.cell 1; have c2 := HG3.out.box.cell 2; have c3 := HG3.out.box.cell 3; have r0 := HG3.out.res.cell 0; have r1 := HG3.out.res.cell 1; have r2 := HG3.out.res.cell 2; have r3 := HG3.out.res.cell 3; have z0 := HG3.out.res.frozen 0; have z1 := HG3.out.res.frozen 1; have z2 := HG3.out.res.frozen 2; have z3 := HG3.out.res.frozen 3; simp only [List.getElem?_toArray, List.getElem?_cons_zero, List.getElem?_cons_succ] at c0 c1 c2 c3 r0 r1 r2 r3; have x1 := at_at HG3.out.rs; have x2 := why_at HG3.out.rs; clear hb))
        | (go_at_call 48; go_must ((with_reducible refine (HCR.out _ _ _).mono ?_); rintro e w2 ⟨rfl, hb⟩; clear c0 c1 c2 c3 r0 r1 r2 r3 z0 z1 z2 z3 x1 x2; have HG2 := Lib.hid (HG1.out.below hb); have c0 := HG2.out.box.cell 0; have c1 := HG2.out.box.cell 1; have c2 := HG2.out.box.cell 2; have c3 := HG2.out.box.cell 3; have r0 := HG2.out.res.cell 0; have r1 := HG2.out.res.cell 1; have r2 := HG2.out.res.cell 2; have r3 := HG2.out.res.cell 3; have z0 := HG2.out.res.frozen 0; have z1 := HG2.out.res.frozen 1; have z2 := HG2.out.res.frozen 2; have z3 := HG2.out.res.frozen 3; simp only [List.getElem?_toArray, List.getElem?_cons_zero, List.getElem?_cons_succ] at c0 c1 c2 c3 r0 r1 r2 r3; have x1 := at_at HG2.out.rs; have x2 := why_at HG2.out.rs; clear hb))
        | (have tok := HG5; go_at_call 86; go_must ((with_reducible refine (HFB.out _ z k 12 _ HG5.out.rs h12).mono ?_); rintro e w6 ⟨rfl, hs, hg⟩; clear c0 c1 c2 c3 r0 r1 r2 r3 z0 z1 z2 z3 x1 x2; have HG6 := Lib.hid (HG5.out.call hs hg); have c0 := HG6.out.box.cell 0; have c1 := HG6.out.box.cell 1; have c2 := HG6.out.box.cell 2; have c3 := HG6.out.box.cell 3; have r0 := HG6.out.res.cell 0; have r1 := HG6.out.res.cell 1; have r2 := HG6.out.res.cell 2; have r3 := HG6.out.res.cell 3; have z0 := HG6.out.res.frozen 0; have z1 := HG6.out.res.frozen 1; have z2 := HG6.out.res.frozen 2; have z3 := HG6.out.res.frozen 3; simp only [List.getElem?_toArray, List.getElem?_cons_zero, List.getElem?_cons_succ] at c0 c1 c2 c3 r0 r1 r2 r3; obtain ⟨jat6, x1⟩ := at_bad HG6.out.rs; have x2 := why_bad HG6.out.rs; clear hs hg))
        | (go_at_call 86; go_must ((with_reducible refine (HF.out _ HG3.out.rs).mono ?_); rintro e w4 ⟨rfl, hs, hg⟩; clear c0 c1 c2 c3 r0 r1 r2 r3 z0 z1 z2 z3 x1 x2; have HG4 := Lib.hid (HG3.out.call hs hg); have c0 := HG4.out.box.cell 0; have c1 := HG4.out.box.cell 1; have c2 := HG4.out.box.cell 2; have c3 := HG4.out.box.cell 3; have r0 := HG4.out.res.cell 0; have r1 := HG4.out.res.cell 1; have r2 := HG4.out.res.cell 2; have r3 := HG4.out.res.cell 3; have z0 := HG4.out.res.frozen 0; have z1 := HG4.out.res.frozen 1; have z2 := HG4.out.res.frozen 2; have z3 := HG4.out.res.frozen 3; simp only [List.getElem?_toArray, List.getElem?_cons_zero, List.getElem?_cons_succ] at c0 c1 c2 c3 r0 r1 r2 r3; obtain ⟨jat4, x1⟩ := at_bad HG4.out.rs; have x2 := why_bad HG4.out.rs; clear hs hg))
        | (go_at_call 87; go_must ((with_reducible refine (HBB.out _ z k HG4.out.rs).mono ?_); rintro e w5 ⟨rfl, hs, hg⟩; clear c0 c1 c2 c3 r0 r1 r2 r3 z0 z1 z2 z3 x1 x2; have HG5 := Lib.hid (HG4.out.call hs hg); have c0 := HG5.out.box.cell 0; have c1 := HG5.out.box.cell 1; have c2 := HG5.out.box.cell 2; have c3 := HG5.out.box.cell 3; have r0 := HG5.out.res.cell 0; have r1 := HG5.out.res.cell 1; have r2 := HG5.out.res.cell 2; have r3 := HG5.out.res.cell 3; have z0 := HG5.out.res.frozen 0; have z1 := HG5.out.res.frozen 1; have z2 := HG5.out.res.frozen 2; have z3 := HG5.out.res.frozen 3; simp only [List.getElem?_toArray, List.getElem?_cons_zero, List.getElem?_cons_succ] at c0 c1 c2 c3 r0 r1 r2 r3; obtain ⟨jat5, x1⟩ := at_bad HG5.out.rs; have x2 := why_bad HG5.out.rs; clear hs hg)))
      obtain ⟨q4, hf⟩ := HG6.out.fin (.int .u8 0) (.int .u64 0) (.int .u64 0) (.slice none 0 0) _ rfl
      have q0 := q4.cell 0
      have q1 := q4.cell 1
      have q2 := q4.cell 2
      have q3 := q4.cell 3
      simp only [List.getElem?_toArray, List.getElem?_cons_zero, List.getElem?_cons_succ] at q0 q1 q2 q3
      exact bodyPost_ret (v := .agg #[.int .u8 0, .int .u64 0, .int .u64 0, .slice none 0 0]) (by simp [results, Tryz.results88, go_sem, q0, q1, q2, q3]) rfl (rgets_no hf)
end Go.Proofs.YtebgmfjgapmpfabGreatDoor

/- The reference's instruction and constant expression behind an error; whatever the reader's state. -/
namespace Go.Proofs.YtebgmfjgapmpfabGreatDoor
open Go.RowKit
set_option linter.unusedVariables false
set_option maxRecDepth 100000

set_option maxHeartbeats 8000000 in
theorem refG_bad {w : World} {q : Nat} {l : List UInt8} {ec ea : Int} (h : Rs w q l (.bad ec ea)) :
    Calls Tryz.prog 120 #[.pointer (some ⟨q, 0, none⟩)] w (RGets q l (.err ec ea) w) := by
  have hlt := h.lt
  have HZ := Lib.hid (h.alloc (.cells #[.int .u8 0, .int .u64 0, .int .u64 0, .slice none 0 0] 59))
  obtain ⟨jy, y1⟩ := at_bad HZ.out
  have hnz := h.nz
  have hB := byte_ref HZ.out
  have HWM := Lib.hid (Whole.made w 59 #[.int .u8 0, .int .u64 0, .int .u64 0, .slice none 0 0])
  have hstart : ∀ (x : Int) (s : RSt) w1, Rs w1 q l s → (w.alloc (.cells #[.int .u8 0, .int .u64 0, .int .u64 0, .slice none 0 0] 59)).grownBy w1 (some q) → RGt w q l w1.heap.size none [] s (.int .u8 x) (.int .u64 0) (.int .u64 0) (.slice none 0 0) (w1.alloc (.cells #[.int .u8 x, .int .u64 0, .int .u64 0, .slice none 0 0] 59)) := fun x s w1 hs1 hg1 => by
    have hz := hg1.size
    rw [size_box] at hz
    exact ⟨(HWM.out.grown hg1 (by simp only [ne_eq, Option.some.injEq]; omega)).alloc _, Whole.made _ _ _, hs1.alloc _, gb_alloc (gb_trans (gb_alloc (gb_refl w _) _) hg1) _, hlt, by omega, (fun j v hv => by simp [cells32] at hv), (fun a e => by cases e)⟩
  have HBY := Lib.hid (show Calls Tryz.prog 87 #[.pointer (some ⟨q, 0, none⟩)] (w.alloc (.cells #[.int .u8 0, .int .u64 0, .int .u64 0, .slice none 0 0] 59)) fun e w' => e = .returned (.int .i64 0) ∧ Rs w' q l (.bad ec ea) ∧ (w.alloc (.cells #[.int .u8 0, .int .u64 0, .int .u64 0, .slice none 0 0] 59)).grownBy w' (some q) from hB)
  have HST := Lib.hid (hstart 0 (.bad ec ea))
  have dw : (ec != 0) = true := by simpa using hnz
  have dw2 : (ec == 0) = false := by simpa using hnz
  clear h hB hstart HZ hnz
  go_enter Tryz.func120, Tryz.ntmps120
  go_wp2_with (first
    | (go_at_call 87; go_must ((with_reducible refine HBY.out.mono ?_); rintro e w1 ⟨rfl, hs, hg⟩; have HG1 := Lib.hid (HST.out w1 hs hg); have hh := HG1.out.h2; have hqq := HG1.out.hq; have n1 : ¬ w1.heap.size = w.heap.size := (by omega); have n2 : ¬ w.heap.size = w1.heap.size := (by omega); have n3 : ¬ w1.heap.size = q := (by omega); have n4 : ¬ q = w1.heap.size := (by omega); have c0 := HG1.out.box.cell 0; have c1 := HG1.out.box.cell 1; have c2 := HG1.out.box.cell 2; have c3 := HG1.out.box.cell 3; have f1 := HG1.out.box.frozen 1; have f2 := HG1.out.box.frozen 2; have f3 := HG1.out.box.frozen 3; have r0 := HG1.out.res.cell 0; have r1 := HG1.out.res.cell 1; have r2 := HG1.out.res.cell 2; have r3 := HG1.out.res.cell 3; have z0 := HG1.out.res.frozen 0; have z1 := HG1.out.res.frozen 1; have z2 := HG1.out.res.frozen 2; have z3 := HG1.out.res.frozen 3; simp only [List.getElem?_toArray, List.getElem?_cons_zero, List.getElem?_cons_succ] at c0 c1 c2 c3 r0 r1 r2 r3; obtain ⟨jat, x1⟩ := at_bad HG1.out.rs; have x2 := why_bad HG1.out.rs; clear hs hg hh hqq y1)))
  obtain ⟨q4, hf⟩ := RGt.fin (HG1.out) (.int .u8 0) (.int .u64 0) (.int .u64 0) (.slice none 0 0) _ rfl
  have q0 := q4.cell 0
  have q1 := q4.cell 1
  have q2 := q4.cell 2
  have q3 := q4.cell 3
  simp only [List.getElem?_toArray, List.getElem?_cons_zero, List.getElem?_cons_succ] at q0 q1 q2 q3
  exact bodyPost_ret (v := .agg #[.int .u8 0, .int .u64 0, .int .u64 0, .slice none 0 0]) (by simp [results, Tryz.results120, go_sem, q0, q1, q2, q3]) rfl (rgets_no hf)
set_option maxHeartbeats 4000000 in
theorem refC_bad {w : World} {q : Nat} {l : List UInt8} {ec ea : Int} (h : Rs w q l (.bad ec ea)) :
    Calls Tryz.prog 88 #[.pointer (some ⟨q, 0, none⟩)] w (RGets q l (.err ec ea) w) := by
  have hlt := h.lt
  have HZ := Lib.hid (h.alloc (.cells #[.int .u8 0, .int .u64 0, .int .u64 0, .slice none 0 0] 59))
  obtain ⟨jy, y1⟩ := at_bad HZ.out
  have hG := refG_bad HZ.out
  have HWM := Lib.hid (Whole.made w 59 #[.int .u8 0, .int .u64 0, .int .u64 0, .slice none 0 0])
  have hstart : ∀ (A : Option Addr) (ls : List Int) (s : RSt) (v0 v1 v2 v3 : Value) w1, Rs w1 q l s → (w.alloc (.cells #[.int .u8 0, .int .u64 0, .int .u64 0, .slice none 0 0] 59)).grownBy w1 (some q) → Lies w1 w1.heap.size A (cells32 ls) → (∀ a, A = some a → (w.alloc (.cells #[.int .u8 0, .int .u64 0, .int .u64 0, .slice none 0 0] 59)).heap.size ≤ a.block) →
      RcS w q l w1.heap.size A ls s v0 v1 v2 v3 (w1.alloc (.cells #[v0, v1, v2, v3] 59)) := fun A ls s v0 v1 v2 v3 w1 hs1 hg1 hla hfar => by
    have hz := hg1.size
    rw [size_box] at hz
    exact ⟨(HWM.out.grown hg1 (by simp only [ne_eq, Option.some.injEq]; omega)).alloc _, Whole.made _ _ _, hs1.alloc _, gb_alloc (gb_trans (gb_alloc (gb_refl w _) _) hg1) _, hlt, by omega, lies_box hla _, fun a ha => by have := hfar a ha; rw [size_box] at this; omega⟩
  have HST := Lib.hid hstart
  have HFB := Lib.hid (fun (W : World) (c a x y : Int) (h : Rs W q l (.bad c a)) (hx : x ≠ 0) => show Calls Tryz.prog 86 #[.pointer (some ⟨q, 0, none⟩), .int .i64 x, .int .i64 y] W fun e w' => e = .returned (.tuple #[]) ∧ Rs w' q l (.bad c a) ∧ W.grownBy w' (some q) from fail_ref h x y hx)
  have HBB := Lib.hid (fun (W : World) (c a : Int) (h : Rs W q l (.bad c a)) => show Calls Tryz.prog 87 #[.pointer (some ⟨q, 0, none⟩)] W fun e w' => e = .returned (.int .i64 0) ∧ Rs w' q l (.bad c a) ∧ W.grownBy w' (some q) from byte_ref h)
  have h12 : (12 : Int) ≠ 0 := by decide
  have HG := Lib.hid (show Calls Tryz.prog 120 #[.pointer (some ⟨q, 0, none⟩)] (w.alloc (.cells #[.int .u8 0, .int .u64 0, .int .u64 0, .slice none 0 0] 59)) fun e w' => e = .returned (.agg #[.int .u8 0, .int .u64 0, .int .u64 0, .slice none 0 0]) ∧ Rs w' q l (.bad ec ea) ∧ (w.alloc (.cells #[.int .u8 0, .int .u64 0, .int .u64 0, .slice none 0 0] 59)).grownBy w' (some q) from hG)
  have hne : ∀ W, Rs W q l (.bad ec ea) → (ec != 0) = true ∧ (ec == 0) = false := fun W h => ⟨by simpa using h.nz, by simpa using h.nz⟩
  have HNE := Lib.hid hne
  clear h hG hstart hne HZ
  go_enter Tryz.func88, Tryz.ntmps88
  go_wp2_with (first
    | (go_at_call 120; go_must ((with_reducible refine HG.out.mono ?_); rintro e w1 ⟨rfl, hs, hg⟩; obtain ⟨dw, dw2⟩ := HNE.out _ hs; have HG1 := Lib.hid (HST.out none [] (.bad ec ea) (.int .u8 0) (.int .u64 0) (.int .u64 0) (.slice none 0 0) w1 hs hg (fun j v hv => by simp [cells32] at hv) (fun a e => by cases e)); have hh := HG1.out.h2; have hqq := HG1.out.hq; have n1 : ¬ w1.heap.size = w.heap.size := (by omega); have n2 : ¬ w.heap.size = w1.heap.size := (by omega); have n3 : ¬ w1.heap.size = q := (by omega); have n4 : ¬ q = w1.heap.size := (by omega); clear hh hqq; have c0 := HG1.out.box.cell 0; have c1 := HG1.out.box.cell 1; have c2 := HG1.out.box.cell 2; have c3 := HG1.out.box.cell 3; have r0 := HG1.out.res.cell 0; have r1 := HG1.out.res.cell 1; have r2 := HG1.out.res.cell 2; have r3 := HG1.out.res.cell 3; have z0 := HG1.out.res.frozen 0; have z1 := HG1.out.res.frozen 1; have z2 := HG1.out.res.frozen 2; have z3 := HG1.out.res.frozen 3; simp only [List.getElem?_toArray, List.getElem?_cons_zero, List.getElem?_cons_succ] at c0 c1 c2 c3 r0 r1 r2 r3; obtain ⟨jat1, x1⟩ := at_bad HG1.out.rs; have x2 := why_bad HG1.out.rs; clear hs hg y1))
    | (go_at_call 87; go_must ((with_reducible refine (HBB.out _ ec ea HG1.out.rs).mono ?_); rintro e w2 ⟨rfl, hs, hg⟩; clear c0 c1 c2 c3 r0 r1 r2 r3 z0 z1 z2 z3 x1 x2; have HG2 := Lib.hid (HG1.out.call hs hg); have c0 := HG2.out.box.cell 0; have c1 := HG2.out.box.cell 1; have c2 := HG2.out.box.cell 2; have c3 := HG2.out.box.cell 3; have r0 := HG2.out.res.cell 0; have r1 := HG2.out.res.cell 1; have r2 := HG2.out.res.cell 2; have r3 := HG2.out.res.cell 3; have z0 := HG2.out.res.frozen 0; have z1 := HG2.out.res.frozen 1; have z2 := HG2.out.res.frozen 2; have z3 := HG2.out.res.frozen 3; simp only [List.getElem?_toArray, List.getElem?_cons_zero, List.getElem?_cons_succ] at c0 c1 c2 c3 r0 r1 r2 r3; obtain ⟨jat2, x1⟩ := at_bad HG2.out.rs; have x2 := why_bad HG2.out.rs; clear hs hg))
    | (go_at_call 86; go_must ((with_reducible refine (HFB.out _ ec ea 12 _ HG2.out.rs h12).mono ?_); rintro e w3 ⟨rfl, hs, hg⟩; clear c0 c1 c2 c3 r0 r1 r2 r3 z0 z1 z2 z3 x1 x2; have HG3 := Lib.hid (HG2.out.call hs hg); have c0 := HG3.out.box.cell 0; have c1 := HG3.out.box.cell 1; have c2 := HG3.out.box.cell 2; have c3 := HG3.out.box.cell 3; have r0 := HG3.out.res.cell 0; have r1 := HG3.out.res.cell 1; have r2 := HG3.out.res.cell 2; have r3 := HG3.out.res.cell 3; have z0 := HG3.out.res.frozen 0; have z1 := HG3.out.res.frozen 1; have z2 := HG3.out.res.frozen 2; have z3 := HG3.out.res.frozen 3; simp only [List.getElem?_toArray, List.getElem?_cons_zero, List.getElem?_cons_succ] at c0 c1 c2 c3 r0 r1 r2 r3; obtain ⟨jat3, x1⟩ := at_bad HG3.out.rs; have x2 := why_bad HG3.out.rs; clear hs hg)))
  obtain ⟨q4, hf⟩ := HG3.out.fin (.int .u8 0) (.int .u64 0) (.int .u64 0) (.slice none 0 0) _ rfl
  have q0 := q4.cell 0
  have q1 := q4.cell 1
  have q2 := q4.cell 2
  have q3 := q4.cell 3
  simp only [List.getElem?_toArray, List.getElem?_cons_zero, List.getElem?_cons_succ] at q0 q1 q2 q3
  exact bodyPost_ret (v := .agg #[.int .u8 0, .int .u64 0, .int .u64 0, .slice none 0 0]) (by simp [results, Tryz.results88, go_sem, q0, q1, q2, q3]) rfl (rgets_no hf)
/-- Whatever its state. -/
theorem refC_st {w : World} {q : Nat} {l : List UInt8} {s : RSt} (h : Rs w q l s) :
    Calls Tryz.prog 88 #[.pointer (some ⟨q, 0, none⟩)] w (RGets q l (s.bind (readR l)) w) := by
  cases s with
  | «at» k => exact refC_any h
  | bad c a => exact refC_bad h
/-- A constant expression; behind an error the zero value. -/
theorem refC_v {w : World} {q : Nat} {l : List UInt8} {s : RSt} (h : Rs w q l s) :
    Calls Tryz.prog 88 #[.pointer (some ⟨q, 0, none⟩)] w fun e w' => ∃ (i : I) (A : Option Addr) (c : Nat), e = .returned (insV i A c) ∧ Rs w' q l (stOf (s.bind (readR l))) ∧ (∀ y k, s.bind (readR l) = .ok y k → i = y) ∧ w.grownBy w' (some q) := by
  refine (refC_st h).mono ?_
  intro e w' hq
  cases hr : s.bind (readR l) with
  | err c a =>
    rw [hr] at hq
    obtain ⟨rfl, h1, h2⟩ := hq
    exact ⟨⟨0, 0, 0, []⟩, none, 0, rfl, h1, (fun y k e => by cases e), h2⟩
  | ok i k =>
    rw [hr] at hq
    obtain ⟨A, c, rfl, _, _, h1, h2⟩ := hq
    exact ⟨i, A, c, rfl, h1, (fun y k e => by injection e with e1 e2), h2⟩
end Go.Proofs.YtebgmfjgapmpfabGreatDoor

/- Few laws that every layer wants: strings of bytes that lie somewhere, boxes, fields; wire.Size. -/
namespace Go.Proofs.YtebgmfjgapmpfabGreatDoor
open Go.RowKit
set_option linter.unusedVariables false
set_option maxRecDepth 100000

theorem be_of {a : Nat} {b : Int} {c : Bool} (h : decide ((a : Int) = b) = c) : ((a : Int) == b) = c := by rw [← h]; rfl
theorem nb_of {a : Nat} {b : Int} {c : Bool} (h : decide ((a : Int) ≠ b) = c) : ((a : Int) != b) = c := by rw [← h]; by_cases e : (a : Int) = b <;> simp [bne, e]
theorem zb_of {a : Int} {c : Bool} (h : decide (a ≠ 0) = c) : (a != 0) = c := by rw [← h]; by_cases e : a = 0 <;> simp [bne, e]
theorem i8_of {a b : UInt8} (h : (a.toNat : Int) = b.toNat) : a = b := UInt8.toNat_inj.1 (by omega)
theorem i32_of {a b : UInt32} (h : (a.toNat : Int) = b.toNat) : a = b := UInt32.toNat_inj.1 (by omega)
theorem S_beqM (a b : List UInt8) : ((S a).toList == (S b).toList) = decide (a = b) := by rw [S_toList, S_toList]; by_cases h : a = b <;> simp [h]
theorem ret_pair {v : Value} {a b : Int} (h : a = b) : Ending.returned (.tuple #[v, .int .i64 a]) = .returned (.tuple #[v, .int .i64 b]) := by rw [h]
theorem u32_le (a : UInt32) : (a.toNat : Int) ≤ 4294967295 := by have := a.toNat_lt; omega
theorem u8_le (a : UInt8) : (a.toNat : Int) ≤ 255 := by have := a.toNat_lt; omega
theorem below_new {w w1 w2 : World} {q : Nat} (h : Below w.heap.size w w1) (hg : w1.grownBy w2 (some q)) (hq : w.heap.size ≤ q) : Below w.heap.size w w2 :=
  Below.grown h hg h.size (fun g e => by injection e with e; omega)
/-- A block of bytes that reads as it was made, marked or not. -/
theorem lies_made (w : World) (xs : List UInt8) (fz : Nat × Nat) : Lies (w.alloc (.cells (cells (nums xs)).toArray 5 fz)) (w.heap.size + 1) (some ⟨w.heap.size, 0, none⟩) (cells (nums xs)) := fun i v hv => by
  refine ⟨w.heap.size, 0, rfl, by omega, ?_⟩
  rw [Nat.zero_add, cell_of_row _ w.heap.size i _ _ fz (heap_alloc_new w _)]
  simpa using hv
theorem made_2 (w : World) (o : Obj) (t : TypeId) (cs : Array Value) : Whole ((w.alloc o).alloc (.cells cs t)) (w.heap.size + 1) t cs := by
  have h := Whole.made (w.alloc o) t cs
  rwa [size_box] at h
/-- string(b) of whatever lies. -/
theorem str_any {w : World} {B : Nat} {A : Option Addr} {o : List UInt8} (h : Lies w B A (cells (nums o))) (c : Nat) :
    ∀ dst, Tryz.prog.underlying dst = some .string → (convert 32 dst (.slice A o.length c)).run Tryz.prog w = .ok (.string (S o)) w := by
  by_cases h0 : 0 < (nums o).length
  · have := str_lies h h0 c Tryz.underlying32 Tryz.underlying5
    rw [strOfNums_nums, nums_length] at this
    exact this
  · have ho : o = [] := List.eq_nil_of_length_eq_zero (by rw [nums_length] at h0; omega)
    subst ho
    intro dst hd
    rw [run_convert_bytes_string w _ dst 5 _ _ c Tryz.underlying32 Tryz.underlying5 hd]
    have e : S [] = ByteArray.empty := rfl
    rw [e]
    cases A <;> simp [Conv.bytesToString, loadCells]
    all_goals rfl
/-- Bytes that lie somewhere in this world; whose slice is nil only without room. -/
structure Pc (A : Option Addr) (c : Nat) (l : List UInt8) (w : World) : Prop where
  lies : Lies w w.heap.size A (cells (nums l))
  nil : A = none → c = 0
theorem Pc.below {A : Option Addr} {c : Nat} {l : List UInt8} {w w' : World} (h : Pc A c l w) (hb : Below w.heap.size w w') : Pc A c l w' := ⟨(h.lies.below hb (Nat.le_refl _)).more hb.size, h.nil⟩
theorem Pc.from {A : Option Addr} {c : Nat} {l : List UInt8} {w w' : World} {B : Nat} (h : Lies w B A (cells (nums l))) (hn : A = none → c = 0) (hB : B ≤ w.heap.size) (hb : Below w.heap.size w w') : Pc A c l w' := ⟨(h.below hb hB).more (Nat.le_trans hB hb.size), hn⟩
theorem Row.pc {w : World} {B : Nat} {v : Value} {xs : List UInt8} (h : Row w B v xs) : ∃ A c, v = .slice A xs.length c ∧ Pc A c xs w := by
  have h' := h
  obtain ⟨h1, h2⟩ := h
  obtain ⟨A, c, e, h3, h4, h5, _⟩ := lies_own h'
  refine ⟨A, c, e, h5, fun hA => ?_⟩
  rcases h2 with ⟨e2, _⟩ | ⟨g, cap, cur, e2, _⟩
  · rw [e] at e2
    injection e2
  · rw [e, hA] at e2
    injection e2 with e3
    cases e3
theorem Pc.room {A : Option Addr} {c : Nat} {l : List UInt8} {w : World} (h : Pc A c l w) : A = none → c = 0 := h.nil
end Go.Proofs.YtebgmfjgapmpfabGreatDoor

/- The reference's num, signed, Put. (By gen/genRefPut.py.) -/
namespace Go.Proofs.YtebgmfjgapmpfabGreatDoor
open Go.RowKit
set_option linter.unusedVariables false
set_option maxRecDepth 100000

def StrPost (l : List UInt8) (w : World) (e : Ending) (w' : World) : Prop := e = .returned (.string (S l)) ∧ Below w.heap.size w w'
theorem num_any (x : Int) (w : World) (h0 : 0 ≤ x) (h1 : x ≤ 18446744073709551615) : Calls Tryz.prog 62 #[.int .u64 x] w (StrPost (lebL x) w) := by
  have U := Lib.hid (fun W => refUintL x W h0 h1)
  have hl := (lebL_len x h1).1
  generalize lebL x = l at *
  go_enter Tryz.func62, Tryz.ntmps62
  go_wp2_with (go_at_call 56; go_must ((with_reducible refine (U.out _).mono ?_); intro e w1 h; obtain ⟨A, k, rfl, hl1, hb⟩ := h; have hs := str_lies' hl1 hl k; have HB := Lib.hid hb; clear hb hl1))
  go_ret
  exact ⟨rfl, HB.out⟩
theorem conv1 {W : World} {op : UInt8} {H : Nat} (hH : W.heap.size = H) : (convert 32 9 (.slice (some ⟨H, 0, none⟩) 1 1)).run Tryz.prog (W.alloc (.cells #[.int .u8 op.toNat] 5)) = .ok (.string (S [op])) (W.alloc (.cells #[.int .u8 op.toNat] 5)) := by
  obtain ⟨A, c, e, h⟩ := (Row.made W [op] 0 H hH (Nat.zero_le _) (by simp)).str
  injection e with e1 _ e2
  subst e1; subst e2
  exact h 9 Tryz.underlying9
theorem conv2 {W : World} {op H : Nat} (hH : W.heap.size = H) (x : Int) (h0 : 0 ≤ x) (h1 : x ≤ 255) : (convert 32 9 (.slice (some ⟨H, 0, none⟩) 1 1)).run Tryz.prog (W.alloc (.cells #[.int .u8 x] 5)) = .ok (.string (S [UInt8.ofNat x.toNat])) (W.alloc (.cells #[.int .u8 x] 5)) := by
  have := conv1 (op := UInt8.ofNat x.toNat) hH
  rwa [u8_of h0 h1] at this

theorem signed32_any (x : Int) (w : World) (h0 : 0 ≤ x) (h1 : x ≤ 18446744073709551615) : Calls Tryz.prog 63 #[.int .u64 x, .int .u64 32] w (StrPost (sebL (s32 x)) w) := by
  have hs : -9223372036854775808 ≤ s32 x ∧ s32 x ≤ 9223372036854775807 := by unfold s32; omega
  have U := Lib.hid (fun W => refIntL (s32 x) W hs.1 hs.2)
  have hl := (sebL_len (s32 x) hs.1 hs.2).1
  have hz : wrap64 (IntKind.u64.wrap (x * 4294967296)) / 4294967296 = s32 x := by unfold s32 wrap64; simp only [IntKind.wrap, IntKind.bits, IntKind.signed]; simp; omega
  generalize s32 x = z at *
  generalize sebL z = l at *
  go_enter Tryz.func63, Tryz.ntmps63
  go_wp2_with (go_at_call 100; go_must ((with_reducible refine (U.out _).mono ?_); intro e w1 h; obtain ⟨A, k, rfl, hl1, hb⟩ := h; have hs2 := str_lies' hl1 hl k; have HB := Lib.hid hb; clear hb hl1))
  go_ret
  exact ⟨rfl, HB.out⟩

theorem signed64_any (x : Int) (w : World) (h0 : 0 ≤ x) (h1 : x ≤ 18446744073709551615) : Calls Tryz.prog 63 #[.int .u64 x, .int .u64 64] w (StrPost (sebL (s64 x)) w) := by
  have hs : -9223372036854775808 ≤ s64 x ∧ s64 x ≤ 9223372036854775807 := by unfold s64; omega
  have U := Lib.hid (fun W => refIntL (s64 x) W hs.1 hs.2)
  have hl := (sebL_len (s64 x) hs.1 hs.2).1
  have hz : wrap64 x = s64 x := by unfold s64 wrap64; omega
  generalize s64 x = z at *
  generalize sebL z = l at *
  go_enter Tryz.func63, Tryz.ntmps63
  go_wp2_with (go_at_call 100; go_must ((with_reducible refine (U.out _).mono ?_); intro e w1 h; obtain ⟨A, k, rfl, hl1, hb⟩ := h; have hs2 := str_lies' hl1 hl k; have HB := Lib.hid hb; clear hb hl1))
  go_ret
  exact ⟨rfl, HB.out⟩

section
variable {w W W' : World} {i : I} {A : Option Addr} {c : Nat}
theorem BoxI.on3 (h : BoxI w W i A c) {O O' : Obj} (hb : Below ((W.alloc O).alloc O').heap.size ((W.alloc O).alloc O') W') : BoxI w W' i A c := ((h.on (below_box W O)).on (below_box _ O')).on hb
theorem BoxI.two3 (h : BoxI w W i A c) (O O' : Obj) : BoxI w ((W.alloc O).alloc O') i A c := (h.on (below_box W O)).on (below_box _ O')
theorem BoxI.three (h : BoxI w W i A c) : BoxI w W i A c ∧ W.cell? ⟨w.heap.size, 1, none⟩ = some (.int .u64 i.a) ∧ W.cell? ⟨w.heap.size, 2, none⟩ = some (.int .u64 i.b) := ⟨h, h.c1, h.c2⟩
theorem held_num {K : Nat} {args : Array Value} {l : List UInt8} (hN : ∀ W, Calls Tryz.prog K args W (StrPost l W)) (h : BoxI w W i A c ∧ W.cell? ⟨w.heap.size, 1, none⟩ = some (.int .u64 i.a) ∧ W.cell? ⟨w.heap.size, 2, none⟩ = some (.int .u64 i.b)) :
    Calls Tryz.prog K args W fun e w' => e = .returned (.string (S l)) ∧ BoxI w w' i A c ∧ w'.cell? ⟨w.heap.size, 1, none⟩ = some (.int .u64 i.a) ∧ w'.cell? ⟨w.heap.size, 2, none⟩ = some (.int .u64 i.b) :=
  (hN W).mono fun _ _ ⟨h1, h2⟩ => ⟨h1, BoxI.three (h.1.on h2)⟩
end
theorem str_put {i : I} {l : List UInt8} {s : ByteArray} {w W : World} (hp : putL i = l) (hs : s = S l) (hb : Below w.heap.size w W) : StrPost (putL i) w (.returned (.string s)) W := ⟨by rw [hs, hp], hb⟩
set_option maxHeartbeats 3000000 in
theorem refPut_any (i : I) (A : Option Addr) (c : Nat) (w : World) (h : i.Ok) (hr : rightZ i = 0) (hl : Lies w w.heap.size A (cells32 i.l)) :
    Calls Tryz.prog 32 #[insV i A c] w (StrPost (putL i) w) := by
  have hn := i.n_le
  have HT := Lib.hid (immL_len h hr)
  obtain ⟨a0, a1, b0, b1, hl0⟩ := h
  have hwb : IntKind.i64.wrap (i.op.toNat : Int) = i.op.toNat := by rw [IntKind.wrap_i64]; have := i.op.toNat_lt; omega
  obtain ⟨hc0, _, h10, _, hz0⟩ := right_zero hr
  obtain ⟨hz1, hz2, hz3⟩ := nums_zero hz0 a0
  have HL0 := Lib.hid hl0
  have HB := Lib.hid (BoxI.start w i A c)
  have HL := Lib.hid hl
  obtain ⟨m, hm⟩ : ∃ m, m = immR i.n := ⟨_, rfl⟩
  obtain ⟨r, hr2⟩ : ∃ r, r = refR i.n := ⟨_, rfl⟩
  have him : (r.getD row0).imm = m := by rw [hr2, hm]; exact (imm_same hn hc0).2
  have HI : Hid (∀ W, Calls Tryz.prog 61 #[.int .i64 i.op.toNat] W (RefPost r W)) := fun W => by rw [hr2]; exact ref_any i.n W hn
  have HIM := Lib.hid (show putL i = [i.op] ++ immB m i by unfold putL immL; rw [hm]; rfl)
  rw [← hm] at hz1 hz2 hz3
  have HZ1 := Lib.hid hz1
  have HZ2 := Lib.hid hz2
  have HZ3 := Lib.hid hz3
  have NA := Lib.hid (fun W => num_any i.a W a0 a1)
  have NB := Lib.hid (fun W => num_any i.b W b0 b1)
  have NL := Lib.hid (fun W => num_any (i.l.length : Int) W (by omega) (by omega))
  have ka := lebL_len i.a (by omega)
  have kb := lebL_len i.b (by omega)
  have kl := lebL_len (i.l.length : Int) (by omega)
  have wl : IntKind.u64.wrap (i.l.length : Int) = i.l.length := by simp [IntKind.wrap, IntKind.bits, IntKind.signed]; omega
  obtain ⟨xa, hxa⟩ : ∃ x, x = lebL i.a := ⟨_, rfl⟩
  obtain ⟨xb, hxb⟩ : ∃ x, x = lebL i.b := ⟨_, rfl⟩
  obtain ⟨xl, hxl⟩ : ∃ x, x = lebL (i.l.length : Int) := ⟨_, rfl⟩
  rw [← hxa] at NA ka
  rw [← hxb] at NB kb
  rw [← hxl] at NL kl
  have sa := S_size xa
  have sb := S_size xb
  have sl := S_size xl
  obtain ⟨o, ho⟩ : ∃ o, o = [i.op] := ⟨_, rfl⟩
  have so : (S o).size = 1 := by rw [S_size, ho]; rfl
  have HC1 := Lib.hid (fun (W : World) (H : Nat) (hH : W.heap.size = H) => (by rw [ho]; exact conv1 hH : (convert 32 9 (.slice (some ⟨H, 0, none⟩) 1 1)).run Tryz.prog (W.alloc (.cells #[.int .u8 i.op.toNat] 5)) = .ok (.string (S o)) (W.alloc (.cells #[.int .u8 i.op.toNat] 5))))
  have HO := Lib.hid ho
  have HXA := Lib.hid hxa
  have HXB := Lib.hid hxb
  have HXL := Lib.hid hxl
  generalize (r.getD row0).op = r1 at *
  clear hl hr hc0 hz0 hr2 hm hz1 hz2 hz3 hl0 hxa hxb hxl ho
  have below2 : ∀ W : World, Below w.heap.size w W → ∀ O O', Below w.heap.size w ((W.alloc O).alloc O') := fun W hb O O' => (hb.alloc hb.size _).alloc (Nat.le_trans hb.size (below_box _ _).size) _
  have HB3f := Lib.hid below2
  clear below2
  by_cases m0 : m = 0
  · subst m0
    have HE := Lib.hid (show putL i = o ++ ([]) by rw [HIM.out, HO.out]; unfold immB; rw [if_pos rfl])
    go_enter Tryz.func32, Tryz.ntmps32
    go_wp2_with (first
      | (go_at_call 61; go_must ((with_reducible refine (HI.out _).mono ?_); rintro e w2 ⟨rfl, hb⟩; have HB2 := Lib.hid (HB.out.on hb); have hlt := HB2.out.lt; have c0 := HB2.out.c0; have c1 := HB2.out.c1; have c2 := HB2.out.c2; have c3 := HB2.out.c3; have hcv := fun O => HC1.out (w2.alloc O) (w2.heap.size + 1) (size_box _ _); clear hb)))
    go_ret
    exact str_put HE.out (by simp) (HB3f.out _ HB2.out.2 _ _)
  have d0 : ((m : Int) == 0) = false := by simp; omega
  by_cases m1 : m = 1
  · subst m1
    have HE := Lib.hid (show putL i = o ++ ([UInt8.ofNat i.a.toNat]) by rw [HIM.out, HO.out]; unfold immB; rw [if_neg (by omega), if_pos rfl])
    have ha := (HZ1.out rfl).1
    have hw : IntKind.u8.wrap i.a = i.a := by simp [IntKind.wrap, IntKind.bits, IntKind.signed]; omega
    obtain ⟨y, hy⟩ : ∃ y, y = [UInt8.ofNat i.a.toNat] := ⟨_, rfl⟩
    have sy : (S y).size = 1 := by rw [S_size, hy]; rfl
    have HC2 := Lib.hid (fun (W : World) (H : Nat) (hH : W.heap.size = H) => (by rw [hy]; exact conv2 (op := 0) hH i.a a0 ha : (convert 32 9 (.slice (some ⟨H, 0, none⟩) 1 1)).run Tryz.prog (W.alloc (.cells #[.int .u8 i.a] 5)) = .ok (.string (S y)) (W.alloc (.cells #[.int .u8 i.a] 5))))
    rw [← hy] at HE
    have q : (S o).size + (S y).size ≤ 9223372036854775807 := by omega
    clear hy
    go_enter Tryz.func32, Tryz.ntmps32
    go_wp2_with (go_at_call 61; go_must ((with_reducible refine (HI.out _).mono ?_); rintro e w2 ⟨rfl, hb⟩; have HB2 := Lib.hid (HB.out.on hb); have hlt := HB2.out.lt; have c0 := HB2.out.c0; have c1 := HB2.out.c1; have c2 := HB2.out.c2; have c3 := HB2.out.c3; have hcv := fun O => HC1.out (w2.alloc O) (w2.heap.size + 1) (size_box _ _); have hcv2 := fun O O' => HC2.out ((w2.alloc O).alloc O') (w2.heap.size + 1 + 1) (by rw [size_box, size_box]); clear hb))
    go_ret
    exact str_put HE.out (by rw [S_append]) ((HB3f.out _ HB2.out.2 _ _).alloc (by have := HB2.out.2.size; rw [size_box, size_box]; omega) _)
  have d1 : ((m : Int) == 1) = false := by simp; omega
  by_cases m3 : m = 3
  · subst m3
    have HE := Lib.hid (show putL i = o ++ (labL i.l ++ xa) by rw [HIM.out, HXA.out, HO.out]; unfold immB; rw [if_neg (by omega), if_neg (by omega), if_pos rfl])
    have q1 : (S o).size + (S xl).size ≤ 9223372036854775807 := by omega
    go_enter Tryz.func32, Tryz.ntmps32
    go_wp2_with (first
      | (go_at_call 61; go_must ((with_reducible refine (HI.out _).mono ?_); rintro e w2 ⟨rfl, hb⟩; have HB2 := Lib.hid (HB.out.on hb); have hlt := HB2.out.lt; have c0 := HB2.out.c0; have c1 := HB2.out.c1; have c2 := HB2.out.c2; have c3 := HB2.out.c3; have hcv := fun O => HC1.out (w2.alloc O) (w2.heap.size + 1) (size_box _ _); clear hb))
      | (go_at_call 62; go_must ((with_reducible refine (NL.out _).mono ?_); rintro e w3 ⟨rfl, hb⟩; have HB3 := Lib.hid (HB2.out.on3 hb); clear hb)))
    rw [S_append]
    obtain ⟨t0, ht0⟩ : ∃ t, t = o ++ xl := ⟨_, rfl⟩
    rw [← ht0]
    have HT0 := Lib.hid ht0
    clear ht0
    go_loopw [5, 6] (fun s j wr => ∃ k : Nat, k ≤ i.l.length ∧ j = .int .i64 k ∧ s = .string (S (t0 ++ labsL (i.l.take k))) ∧ BoxI w wr i A c) (fun _ j _ => i.l.length - (intOf j).toNat)
    case atStart => exact ⟨0, Nat.zero_le _, rfl, by simp [labsL], HB3.out⟩
    case round =>
      obtain ⟨k, hk, rfl, rfl, hbx⟩ := hrel
      have d3 := hbx.c3
      have d1 := hbx.c1
      have HBX := Lib.hid hbx
      have hlen : (t0 ++ labsL (i.l.take k)).length ≤ 200000 := by rw [List.length_append, HT0.out, List.length_append, HO.out]; have := labsL_take_len i.l HL0.out k h10; simp; omega
      by_cases hlt : k < i.l.length
      · obtain ⟨d, hd⟩ : ∃ d, i.l[k]? = some d := ⟨_, List.getElem?_eq_getElem hlt⟩
        obtain ⟨b, off, rfl, hbl, hcell⟩ := HL.out k _ (cells32_get hd)
        have hcell2 := (hbx.2.cell (p := ⟨b, off + k, none⟩) hbl).trans hcell
        have hdb := HL0.out d (List.mem_of_getElem? hd)
        have wd : IntKind.u64.wrap d = d := by simp [IntKind.wrap, IntKind.bits, IntKind.signed]; omega
        have ND := Lib.hid (fun W => num_any d W hdb.1 (by omega))
        have m2 := lebL_len d (by omega)
        have HS := Lib.hid (labsL_snoc hd)
        obtain ⟨y, hy⟩ : ∃ y, y = lebL d := ⟨_, rfl⟩
        rw [← hy] at ND m2 HS
        obtain ⟨t, ht⟩ : ∃ t, t = t0 ++ labsL (i.l.take k) := ⟨_, rfl⟩
        rw [← ht] at hlen ⊢
        have HTT := Lib.hid ht
        have st := S_size t
        have sy := S_size y
        have q : (S t).size + (S y).size ≤ 9223372036854775807 := by omega
        clear hcell hd hy ht hbx
        go_wp2_with (go_at_call 62; go_must ((with_reducible refine (ND.out _).mono ?_); rintro e w4 ⟨rfl, hb⟩; have HB4 := Lib.hid (HBX.out.on hb); clear hb))
        go_roundw
        case rel => exact ⟨k + 1, by omega, by go_num, by rw [S_append, HS.out, ← List.append_assoc, ← HTT.out], HB4.out⟩
        case measure => simp [intOf]; omega
      · obtain rfl : k = i.l.length := by omega
        obtain ⟨t, ht⟩ : ∃ t, t = t0 ++ labsL (i.l.take i.l.length) := ⟨_, rfl⟩
        rw [← ht] at hlen ⊢
        have HTT := Lib.hid (show t = o ++ labL i.l by rw [ht, HT0.out, List.take_of_length_le (Nat.le_refl _)]; unfold labL; rw [List.append_assoc, HXL.out])
        have st := S_size t
        have q : (S t).size + (S xa).size ≤ 9223372036854775807 := by omega
        clear ht hbx
        go_wp2_with (go_at_call 62; go_must ((with_reducible refine (NA.out _).mono ?_); rintro e w4 ⟨rfl, hb⟩; have HB4 := Lib.hid (HBX.out.on hb); clear hb))
        go_ret
        exact str_put HE.out (by rw [S_append, HTT.out, List.append_assoc]) HB4.out.2
  have d3 : ((m : Int) == 3) = false := by simp; omega
  by_cases m5 : m = 5
  · subst m5
    have HE := Lib.hid (show putL i = o ++ (xa ++ [0]) by rw [HIM.out, HXA.out, HO.out]; unfold immB; rw [if_neg (by omega), if_neg (by omega), if_neg (by omega), if_pos rfl])
    have q1 : (S o).size + (S xa).size ≤ 9223372036854775807 := by omega
    have q2 : (S o).size + (S xa).size + 1 ≤ 9223372036854775807 := by omega
    go_enter Tryz.func32, Tryz.ntmps32
    go_wp2_with (first
      | (go_at_call 61; go_must ((with_reducible refine (HI.out _).mono ?_); rintro e w2 ⟨rfl, hb⟩; have HB2 := Lib.hid (HB.out.on hb); have hlt := HB2.out.lt; have c0 := HB2.out.c0; have c1 := HB2.out.c1; have c2 := HB2.out.c2; have c3 := HB2.out.c3; have hcv := fun O => HC1.out (w2.alloc O) (w2.heap.size + 1) (size_box _ _); clear hb))
      | (go_at_call 62; go_must ((with_reducible refine (NA.out _).mono ?_); rintro e w3 ⟨rfl, hb⟩; have HB3 := Lib.hid hb; clear hb)))
    go_ret
    exact str_put HE.out (by rw [show ({ data := #[0] } : ByteArray) = S [0] from rfl, S_append, S_append, List.append_assoc]) ((HB3f.out _ HB2.out.2 _ _).trans (HB3.out.mono (HB3f.out _ HB2.out.2 _ _).size))
  have d5 : ((m : Int) == 5) = false := by simp; omega
  by_cases m8 : m = 8
  · subst m8
    have HE := Lib.hid (show putL i = o ++ (xa ++ xb) by rw [HIM.out, HXA.out, HXB.out, HO.out]; unfold immB; rw [if_neg (by omega), if_neg (by omega), if_neg (by omega), if_neg (by omega), if_pos rfl])
    have q1 : (S o).size + (S xa).size ≤ 9223372036854775807 := by omega
    have q2 : (S o).size + (S xa).size + (S xb).size ≤ 9223372036854775807 := by omega
    have q3 : ¬ 9223372036854775807 < (S o).size + (S xa).size := by omega
    have q4 : ¬ 9223372036854775807 < (S o).size + (S xa).size + (S xb).size := by omega
    go_enter Tryz.func32, Tryz.ntmps32
    go_wp2_with (first
      | (go_at_call 61; go_must ((with_reducible refine (HI.out _).mono ?_); rintro e w2 ⟨rfl, hb⟩; have HB2 := Lib.hid (HB.out.on hb); have hlt := HB2.out.lt; have c0 := HB2.out.c0; have c1 := HB2.out.c1; have c2 := HB2.out.c2; have c3 := HB2.out.c3; have hcv := fun O => HC1.out (w2.alloc O) (w2.heap.size + 1) (size_box _ _); clear hb)))
    clear q1 q2 so sa sb sl
    have HS0 := Lib.hid (HB2.out.two3)
    go_region_held3 (fun W => BoxI w W i A c ∧ W.cell? ⟨w.heap.size, 1, none⟩ = some (.int .u64 i.a) ∧ W.cell? ⟨w.heap.size, 2, none⟩ = some (.int .u64 i.b))
      (first | assumption | exact BoxI.three (HS0.out _ _) | exact BoxI.three ((HS0.out _ _).drewN 1))
      (first | (go_at_call 62; first | ((with_reducible refine (held_num NA.out ‹_›).mono ?_); rintro e w3 ⟨rfl, hk3⟩) | ((with_reducible refine (held_num NB.out ‹_›).mono ?_); rintro e w4 ⟨rfl, hk4⟩)))
    go_wp2
    go_ret
    exact str_put HE.out (by rw [S_append, S_append, List.append_assoc]) (BoxI.bel hk4.1)
  have d8 : ((m : Int) == 8) = false := by simp; omega
  by_cases m9 : m = 9
  · subst m9
    have HE := Lib.hid (show putL i = o ++ ([0]) by rw [HIM.out, HO.out]; unfold immB; rw [if_neg (by omega), if_neg (by omega), if_neg (by omega), if_neg (by omega), if_neg (by omega), if_pos rfl])
    have q1 : (S o).size + 1 ≤ 9223372036854775807 := by omega
    go_enter Tryz.func32, Tryz.ntmps32
    go_wp2_with (first
      | (go_at_call 61; go_must ((with_reducible refine (HI.out _).mono ?_); rintro e w2 ⟨rfl, hb⟩; have HB2 := Lib.hid (HB.out.on hb); have hlt := HB2.out.lt; have c0 := HB2.out.c0; have c1 := HB2.out.c1; have c2 := HB2.out.c2; have c3 := HB2.out.c3; have hcv := fun O => HC1.out (w2.alloc O) (w2.heap.size + 1) (size_box _ _); clear hb)))
    go_ret
    exact str_put HE.out (by rw [show ({ data := #[0] } : ByteArray) = S [0] from rfl, S_append]) (HB3f.out _ HB2.out.2 _ _)
  have d9 : ((m : Int) == 9) = false := by simp; omega
  by_cases m10 : m = 10
  · subst m10
    have HE := Lib.hid (show putL i = o ++ (sebL (s32 i.a)) by rw [HIM.out, HO.out]; unfold immB; rw [if_neg (by omega), if_neg (by omega), if_neg (by omega), if_neg (by omega), if_neg (by omega), if_neg (by omega), if_pos rfl])
    have hs : -9223372036854775808 ≤ s32 i.a ∧ s32 i.a ≤ 9223372036854775807 := by unfold s32; omega
    have kz := sebL_len (s32 i.a) hs.1 hs.2
    have NZ := Lib.hid (fun W => signed32_any i.a W a0 a1)
    generalize sebL (s32 i.a) = z at *
    have sz := S_size z
    have q1 : (S o).size + (S z).size ≤ 9223372036854775807 := by omega
    go_enter Tryz.func32, Tryz.ntmps32
    go_wp2_with (first
      | (go_at_call 61; go_must ((with_reducible refine (HI.out _).mono ?_); rintro e w2 ⟨rfl, hb⟩; have HB2 := Lib.hid (HB.out.on hb); have hlt := HB2.out.lt; have c0 := HB2.out.c0; have c1 := HB2.out.c1; have c2 := HB2.out.c2; have c3 := HB2.out.c3; have hcv := fun O => HC1.out (w2.alloc O) (w2.heap.size + 1) (size_box _ _); clear hb))
      | (go_at_call 63; go_must ((with_reducible refine (NZ.out _).mono ?_); rintro e w3 ⟨rfl, hb⟩; have HB3 := Lib.hid hb; clear hb)))
    go_ret
    exact str_put HE.out (by rw [S_append]) ((HB3f.out _ HB2.out.2 _ _).trans (HB3.out.mono (HB3f.out _ HB2.out.2 _ _).size))
  have d10 : ((m : Int) == 10) = false := by simp; omega
  by_cases m11 : m = 11
  · subst m11
    have HE := Lib.hid (show putL i = o ++ (sebL (s64 i.a)) by rw [HIM.out, HO.out]; unfold immB; rw [if_neg (by omega), if_neg (by omega), if_neg (by omega), if_neg (by omega), if_neg (by omega), if_neg (by omega), if_neg (by omega), if_pos rfl])
    have hs : -9223372036854775808 ≤ s64 i.a ∧ s64 i.a ≤ 9223372036854775807 := by unfold s64; omega
    have kz := sebL_len (s64 i.a) hs.1 hs.2
    have NZ := Lib.hid (fun W => signed64_any i.a W a0 a1)
    generalize sebL (s64 i.a) = z at *
    have sz := S_size z
    have q1 : (S o).size + (S z).size ≤ 9223372036854775807 := by omega
    go_enter Tryz.func32, Tryz.ntmps32
    go_wp2_with (first
      | (go_at_call 61; go_must ((with_reducible refine (HI.out _).mono ?_); rintro e w2 ⟨rfl, hb⟩; have HB2 := Lib.hid (HB.out.on hb); have hlt := HB2.out.lt; have c0 := HB2.out.c0; have c1 := HB2.out.c1; have c2 := HB2.out.c2; have c3 := HB2.out.c3; have hcv := fun O => HC1.out (w2.alloc O) (w2.heap.size + 1) (size_box _ _); clear hb))
      | (go_at_call 63; go_must ((with_reducible refine (NZ.out _).mono ?_); rintro e w3 ⟨rfl, hb⟩; have HB3 := Lib.hid hb; clear hb)))
    go_ret
    exact str_put HE.out (by rw [S_append]) ((HB3f.out _ HB2.out.2 _ _).trans (HB3.out.mono (HB3f.out _ HB2.out.2 _ _).size))
  have d11 : ((m : Int) == 11) = false := by simp; omega
  have HE := Lib.hid (show putL i = o ++ xa by rw [HIM.out, HXA.out, HO.out]; unfold immB; rw [if_neg m0, if_neg m1, if_neg m3, if_neg m5, if_neg m8, if_neg m9, if_neg m10, if_neg m11])
  have q1 : (S o).size + (S xa).size ≤ 9223372036854775807 := by omega
  clear HIM
  go_enter Tryz.func32, Tryz.ntmps32
  go_wp2_with (first
    | (go_at_call 61; go_must ((with_reducible refine (HI.out _).mono ?_); rintro e w2 ⟨rfl, hb⟩; have HB2 := Lib.hid (HB.out.on hb); have hlt := HB2.out.lt; have c0 := HB2.out.c0; have c1 := HB2.out.c1; have c2 := HB2.out.c2; have c3 := HB2.out.c3; have hcv := fun O => HC1.out (w2.alloc O) (w2.heap.size + 1) (size_box _ _); clear hb))
    | (go_at_call 62; go_must ((with_reducible refine (NA.out _).mono ?_); rintro e w3 ⟨rfl, hb⟩; have HB3 := Lib.hid hb; clear hb)))
  go_ret
  exact str_put HE.out (by rw [S_append]) ((HB3f.out _ HB2.out.2 _ _).trans (HB3.out.mono (HB3f.out _ HB2.out.2 _ _).size))
end Go.Proofs.YtebgmfjgapmpfabGreatDoor
