/- Scanner.End of whatever is left; the reference's ValType, Global, End, whatever its state. -/
import Derived.Test.YticgmfeihdankaaGreatDoorZm03
import Derived.Test.YticgmfeihdankaaGreatDoorZm04
import Derived.Test.YticgmfeihdankaaGreatDoorZm10
import Derived.Test.YticgmfeihdankaaGreatDoorZm09
namespace Go.Proofs.YticgmfeihdankaaGreatDoor
open Go.RowKit
set_option linter.unusedVariables false
set_option maxRecDepth 100000

theorem done_held {w W : World} {p : Nat} {l : List UInt8} {k : Nat} (h : (Sc W p l k ∧ w.grownBy W (some p)) ∧ W.cell? ⟨p, 1, none⟩ = some (.int .i64 k)) (hk : k < l.length) :
    Calls Tryz.prog 57 #[.pointer (some ⟨p, 0, none⟩)] W fun e w' => e = .returned (.bool false) ∧ ((Sc w' p l k ∧ w.grownBy w' (some p)) ∧ w'.cell? ⟨p, 1, none⟩ = some (.int .i64 k)) := by
  have hd := done_any h.1.1
  have e : (((l.length : Int) - k) == 0) = false := by simp; omega
  rw [e] at hd
  refine hd.mono ?_
  rintro e w' ⟨rfl, m, rfl⟩
  exact ⟨rfl, ⟨h.1.1.drewN m, gb_drewN h.1.2 m⟩, h.2⟩
/-- End, where something is left. -/
theorem end_bad {w : World} {p : Nat} {l : List UInt8} {k : Nat} (h : Sc w p l k) (hk : k < l.length) :
    Calls Tryz.prog 40 #[.pointer (some ⟨p, 0, none⟩)] w fun e w' => e = .panicked (stopP 14 k) ∧ w.grownBy w' (some p) := by
  have HS := Lib.hid h
  have c1 := h.at
  clear h
  go_enter Tryz.func40, Tryz.ntmps40
  refine wp_region_held_drew (S := fun W => (Sc W p l k ∧ w.grownBy W (some p)) ∧ W.cell? ⟨p, 1, none⟩ = some (.int .i64 k)) (by kernel_rfl) ⟨⟨HS.out, gb_drew (gb_refl _ _)⟩, c1⟩ (fun hHeld => ?_)
  (refine wpAnyH_take (i := 0) (oi := { dst := some 2, op := Op.move (Operand.tmp 0), type := 24, pos := "scan.go:157", after := #[], guard := none }) (v := ?_) rfl (by kernel_rfl) (by kernel_rfl) (by kernel_rfl) (fun _ _ _ h => h) ?_ (by assumption) ?_; rotate_left; focus (refine .inl ⟨by kernel_rfl, ?_⟩; intro w hSw; (try dsimp only at hSw); go_simp; (try with_reducible rfl)); (try simp only [Act.put, List.setIfInBounds_toArray, List.set_cons_zero, List.set_cons_succ]))
  (refine wpAnyH_take (i := 2) (oi := { dst := some 4, op := Op.move (Operand.tmp 0), type := 24, pos := "scan.go:157", after := #[], guard := none }) (v := ?_) rfl (by kernel_rfl) (by kernel_rfl) (by kernel_rfl) (fun _ _ _ h => h) ?_ (by assumption) ?_; rotate_left; focus (refine .inl ⟨by kernel_rfl, ?_⟩; intro w hSw; (try dsimp only at hSw); go_simp; (try with_reducible rfl)); (try simp only [Act.put, List.setIfInBounds_toArray, List.set_cons_zero, List.set_cons_succ]))
  (refine wpAnyH_take (i := 3) (oi := { dst := some 5, op := Op.nilCheck (Operand.tmp 4), type := 0, pos := "scan.go:157", after := #[{ on := 2, ground := Ground.data }], guard := none }) (v := ?_) rfl (by kernel_rfl) (by kernel_rfl) (by kernel_rfl) (fun _ _ _ h => h) ?_ (by assumption) ?_; rotate_left; focus (refine .inl ⟨by kernel_rfl, ?_⟩; intro w hSw; (try dsimp only at hSw); go_simp; (try with_reducible rfl)); (try simp only [Act.put, List.setIfInBounds_toArray, List.set_cons_zero, List.set_cons_succ]))
  (refine wpAnyH_take (i := 4) (oi := { dst := some 6, op := Op.fieldAddr 57 (Operand.tmp 5) 1, type := 0, pos := "scan.go:157", after := #[{ on := 3, ground := Ground.data }], guard := none }) (v := ?_) rfl (by kernel_rfl) (by kernel_rfl) (by kernel_rfl) (fun _ _ _ h => h) ?_ (by assumption) ?_; rotate_left; focus (refine .inl ⟨by kernel_rfl, ?_⟩; intro w hSw; (try dsimp only at hSw); go_simp; (try with_reducible rfl)); (try simp only [Act.put, List.setIfInBounds_toArray, List.set_cons_zero, List.set_cons_succ]))
  (refine wpAnyH_take (i := 5) (oi := { dst := some 7, op := Op.load 3 (Operand.tmp 6), type := 3, pos := "scan.go:157", after := #[{ on := 4, ground := Ground.data }], guard := none }) (v := ?_) rfl (by kernel_rfl) (by kernel_rfl) (by kernel_rfl) (fun _ _ _ h => h) ?_ (by assumption) ?_; rotate_left; focus (refine .inl ⟨by kernel_rfl, ?_⟩; intro w hSw; (try dsimp only at hSw); go_simp; (try with_reducible rfl)); (try simp only [Act.put, List.setIfInBounds_toArray, List.set_cons_zero, List.set_cons_succ]))
  refine wpAnyH_ready (rs := [1]) (by kernel_rfl) (by simp) ?_
  refine AllReadyH.cons (o := { dst := some 3, op := Op.call { callee := Callee.value (Operand.func 57), args := #[Operand.tmp 2], argTypes := #[24] }, type := 4, pos := "scan.go:157", after := #[{ on := 0, ground := Ground.data }], guard := none }) rfl (fun K hK => ?_) AllReadyH.nil
  go_simp
  (go_at_call 57; (with_reducible refine (done_held hHeld hk).mono ?_); rintro e w' ⟨rfl, hk1⟩)
  refine hK.out _ _ hk1 (fun hHeld1 => ?_)
  clear hK K hHeld
  (try simp only [Act.put, List.setIfInBounds_toArray, List.set_cons_zero, List.set_cons_succ])
  refine wpAnyH_ready (rs := [6]) (by kernel_rfl) (by simp) ?_
  refine AllReadyH.cons (o := { dst := some 8, op := Op.call { callee := Callee.value (Operand.func 56), args := #[Operand.tmp 3, Operand.const (Value.int IntKind.i64 14), Operand.tmp 7], argTypes := #[4, 30, 3] }, type := 0, pos := "scan.go:157", after := #[{ on := 1, ground := Ground.data }, { on := 5, ground := Ground.data }, { on := 1, ground := Ground.chain }], guard := none }) rfl (fun K hK => ?_) AllReadyH.nil
  go_simp
  (go_at_call 56; (with_reducible refine (unlessF _ _ _).mono ?_); rintro e w' ⟨rfl, rfl⟩; exact ⟨rfl, rfl, hHeld1.1.2⟩)

/-- The reference's End. -/
def endS (l : List UInt8) : RSt → RSt
  | .at k => if k < l.length then .bad 14 k else .at k
  | .bad c a => .bad c a
theorem end_ref {w : World} {q : Nat} {l : List UInt8} {s : RSt} (h : Rs w q l s) :
    Calls Tryz.prog 25 #[.pointer (some ⟨q, 0, none⟩)] w fun e w' => e = .returned (.tuple #[]) ∧ Rs w' q l (endS l s) ∧ w.grownBy w' (some q) := by
  cases s with
  | bad c a =>
    show Calls _ _ _ _ fun e w' => e = .returned (.tuple #[]) ∧ Rs w' q l (.bad c a) ∧ w.grownBy w' (some q)
    have HR := Lib.hid h
    obtain ⟨A, cap, j, h1, _, _, _, hn⟩ := h.badly
    have g2 := h1.cell 2
    simp only [List.getElem?_toArray, List.getElem?_cons_zero, List.getElem?_cons_succ] at g2
    have d : (c == 0) = false := by simpa using hn
    clear h h1 hn
    go_enter Tryz.func25, Tryz.ntmps25
    go_wp2
    go_quiet (fail)
    go_wp2
    go_end0
    exact ⟨rfl, HR.out.drewN _, gb_drewN (gb_refl w _) _⟩
  | «at» k =>
    have HS := Lib.hid h
    obtain ⟨A, cap, h1, h2, h3, h4, h5⟩ := h.good
    have h4' := h4
    unfold maxLen at h4'
    have c0 := h1.cell 0
    have c1 := h1.cell 1
    have c2 := h1.cell 2
    simp only [List.getElem?_toArray, List.getElem?_cons_zero, List.getElem?_cons_succ] at c0 c1 c2
    by_cases hk : k < l.length
    · show Calls _ _ _ _ fun e w' => e = .returned (.tuple #[]) ∧ Rs w' q l (if k < l.length then .bad 14 k else .at k) ∧ w.grownBy w' (some q)
      rw [if_pos hk]
      have d2 : decide ((k : Int) < (l.length : Int)) = true := by simp; omega
      have HF := Lib.hid (fun n => show Calls Tryz.prog 44 #[.pointer (some ⟨q, 0, none⟩), .int .i64 14, .int .i64 k] (w.drewN n) fun e w' => e = .returned (.tuple #[]) ∧ Rs w' q l (.bad 14 k) ∧ (w.drewN n).grownBy w' (some q) from fail_ref (HS.out.drewN n) 14 k (by decide))
      clear h h1 h2
      go_enter Tryz.func25, Tryz.ntmps25
      go_wp2
      go_quiet (fail)
      go_wp2_with (go_at_call 44; go_must ((with_reducible refine (HF.out _).mono ?_); rintro e w1 ⟨rfl, hs, hg⟩; have HS1 := Lib.hid hs; have HG1 := Lib.hid hg; clear hs hg))
      go_end0
      exact ⟨rfl, HS1.out, gb_trans (gb_drewN (gb_refl w _) _) HG1.out⟩
    · show Calls _ _ _ _ fun e w' => e = .returned (.tuple #[]) ∧ Rs w' q l (if k < l.length then .bad 14 k else .at k) ∧ w.grownBy w' (some q)
      rw [if_neg hk]
      have d2 : decide ((k : Int) < (l.length : Int)) = false := by simp; omega
      clear h h1 h2
      go_enter Tryz.func25, Tryz.ntmps25
      go_wp2
      go_quiet (fail)
      go_wp2
      go_end0
      exact ⟨rfl, HS.out.drewN _, gb_drewN (gb_refl w _) _⟩

/-- A type of values; behind an error any byte. -/
def ValP (q : Nat) (l : List UInt8) (r : Res UInt8) (w : World) (e : Ending) (w' : World) : Prop :=
  ∃ v : UInt8, e = .returned (.int .u8 v.toNat) ∧ Rs w' q l (stOf r) ∧ (∀ c k, r = .ok c k → v = c) ∧ w.grownBy w' (some q)
set_option maxHeartbeats 800000 in
theorem val_ref {w : World} {q : Nat} {l : List UInt8} {s : RSt} (h : Rs w q l s) :
    Calls Tryz.prog 64 #[.pointer (some ⟨q, 0, none⟩)] w (ValP q l (s.bind (valR l)) w) := by
  have hB := byte_ref h
  have w0 : IntKind.u8.wrap (0 : Int) = 0 := rfl
  cases s with
  | bad c a =>
    show Calls _ _ _ _ (ValP q l (.err c a) w)
    have HB := Lib.hid (show Calls Tryz.prog 65 #[.pointer (some ⟨q, 0, none⟩)] w fun e w' => e = .returned (.int .i64 0) ∧ Rs w' q l (.bad c a) ∧ w.grownBy w' (some q) from hB)
    obtain ⟨jy, y1⟩ := at_bad h
    have d : (c == 0) = false := by simpa using h.nz
    clear h hB
    go_enter Tryz.func64, Tryz.ntmps64
    go_wp2_with (go_at_call 65; go_must ((with_reducible refine HB.out.mono ?_); rintro e w1 ⟨rfl, hs, hg⟩; have HS := Lib.hid hs; have HG := Lib.hid hg; have x2 := why_bad hs; clear hs hg y1))
    go_ret
    exact ⟨0, rfl, HS.out, (fun c k e => by cases e), HG.out⟩
  | «at» k =>
    show Calls _ _ _ _ (ValP q l (valR l k) w)
    have y1 := at_at h
    rw [show (RSt.at k).bind (byteR l) = byteR l k from rfl] at hB
    unfold valR
    cases hb : byteR l k with
    | err c a =>
      rw [hb] at hB
      rw [Res.bind_err]
      have HB := Lib.hid (show Calls Tryz.prog 65 #[.pointer (some ⟨q, 0, none⟩)] w fun e w' => e = .returned (.int .i64 0) ∧ Rs w' q l (.bad c a) ∧ w.grownBy w' (some q) from hB)
      have d : (c == 0) = false := by have := byteR_nz hb; simpa using this
      clear h hB hb
      go_enter Tryz.func64, Tryz.ntmps64
      go_wp2_with (go_at_call 65; go_must ((with_reducible refine HB.out.mono ?_); rintro e w1 ⟨rfl, hs, hg⟩; have HS := Lib.hid hs; have HG := Lib.hid hg; have x2 := why_bad hs; clear hs hg y1))
      go_ret
      exact ⟨0, rfl, HS.out, (fun c k e => by cases e), HG.out⟩
    | ok c k1 =>
      rw [hb] at hB
      rw [Res.bind_ok]
      have HB := Lib.hid (show Calls Tryz.prog 65 #[.pointer (some ⟨q, 0, none⟩)] w fun e w' => e = .returned (.int .i64 c.toNat) ∧ Rs w' q l (.at k1) ∧ w.grownBy w' (some q) from hB)
      have HV := Lib.hid (fun W => refValue_any (c.toNat : Int) W)
      have hw := wrap8 c
      clear h hB hb
      by_cases hz : valueZ c.toNat = 0
      · rw [if_pos hz]
        rw [hz] at HV
        clear hz
        go_enter Tryz.func64, Tryz.ntmps64
        go_wp2_with (first
          | (go_at_call 65; go_must ((with_reducible refine HB.out.mono ?_); rintro e w1 ⟨rfl, hs, hg⟩; have HS := Lib.hid hs; have HG := Lib.hid hg; have x2 := why_at hs; clear hs hg y1))
          | (go_at_call 28; go_must ((with_reducible refine (HV.out _).mono ?_); rintro e w' ⟨rfl, rfl⟩)))
        go_ret
        exact ⟨c, rfl, HS.out, (fun c k e => by injection e with e1 e2), HG.out⟩
      · rw [if_neg hz]
        have dz : (valueZ c.toNat != 0) = true := by simpa using hz
        obtain ⟨z, hzz⟩ : ∃ z, z = valueZ c.toNat := ⟨_, rfl⟩
        rw [← hzz] at HV dz hz ⊢
        have HF := Lib.hid (fun W (g : Rs W q l (.at k1)) => show Calls Tryz.prog 44 #[.pointer (some ⟨q, 0, none⟩), .int .i64 z, .int .i64 k] W fun e w' => e = .returned (.tuple #[]) ∧ Rs w' q l (.bad z k) ∧ W.grownBy w' (some q) from fail_ref g z k hz)
        clear hz hzz
        go_enter Tryz.func64, Tryz.ntmps64
        go_wp2_with (first
          | (go_at_call 65; go_must ((with_reducible refine HB.out.mono ?_); rintro e w1 ⟨rfl, hs, hg⟩; have HS := Lib.hid hs; have HG := Lib.hid hg; have x2 := why_at hs; clear hs hg y1))
          | (go_at_call 28; go_must ((with_reducible refine (HV.out _).mono ?_); rintro e w' ⟨rfl, rfl⟩))
          | (go_at_call 44; go_must ((with_reducible refine (HF.out _ HS.out).mono ?_); rintro e w2 ⟨rfl, hs, hg⟩; have HS2 := Lib.hid hs; have HG2 := Lib.hid hg; clear hs hg x2)))
        go_ret
        exact ⟨c, rfl, HS2.out, (fun c k e => by cases e), gb_trans HG.out HG2.out⟩
end Go.Proofs.YticgmfeihdankaaGreatDoor

/- The reference's constant expression of any bytes. (By gen/genRefC.py.) -/
namespace Go.Proofs.YticgmfeihdankaaGreatDoor
open Go.RowKit
set_option linter.unusedVariables false
set_option maxRecDepth 100000

/-- How far the reference's reader of constant expressions has come. -/
structure RcS (w : World) (q : Nat) (l : List UInt8) (H2 : Nat) (A : Option Addr) (ls : List Int) (s : RSt) (v0 v1 v2 v3 : Value) (W : World) : Prop where
  res : Whole W w.heap.size 44 #[.int .u8 0, .int .u64 0, .int .u64 0, .slice none 0 0]
  box : Whole W H2 44 #[v0, v1, v2, v3]
  rs : Rs W q l s
  gr : w.grownBy W (some q)
  hq : q < w.heap.size
  h2 : w.heap.size < H2
  lab : Lies W W.heap.size A (cells32 ls)
  far : ∀ a, A = some a → w.heap.size < a.block
section
variable {w : World} {q : Nat} {l : List UInt8} {H2 : Nat} {A : Option Addr} {ls : List Int} {s s' : RSt} {v0 v1 v2 v3 : Value} {W W' : World}
theorem RcS.call (h : RcS w q l H2 A ls s v0 v1 v2 v3 W) (hs : Rs W' q l s') (hg : W.grownBy W' (some q)) : RcS w q l H2 A ls s' v0 v1 v2 v3 W' := by
  have a := h.hq
  have b := h.h2
  exact ⟨h.res.grown hg (by simp only [ne_eq, Option.some.injEq]; omega), h.box.grown hg (by simp only [ne_eq, Option.some.injEq]; omega), hs, gb_trans h.gr hg, h.hq, h.h2, h.lab.keep hg (fun x hx => by have := h.far x hx; omega), h.far⟩
theorem RcS.below (h : RcS w q l H2 A ls s v0 v1 v2 v3 W) (hb : Below W.heap.size W W') : RcS w q l H2 A ls s v0 v1 v2 v3 W' := h.call (h.rs.below hb) (gb_of_below _ hb)
theorem RcS.fin (h : RcS w q l H2 A ls s v0 v1 v2 v3 W) (x0 x1 x2 x3 : Value) (W4 : World) (hW : W4 = (((W.setCell ⟨w.heap.size, 0, none⟩ x0).setCell ⟨w.heap.size, 1, none⟩ x1).setCell ⟨w.heap.size, 2, none⟩ x2).setCell ⟨w.heap.size, 3, none⟩ x3) :
    Whole W4 w.heap.size 44 #[x0, x1, x2, x3] ∧ Rs W4 q l s ∧ w.grownBy W4 (some q) ∧ Lies W4 W4.heap.size A (cells32 ls) := by
  subst hW
  have a := h.hq
  have b := h.h2
  have hg := gb_put (p := ⟨w.heap.size, 3, none⟩) (gb_put (p := ⟨w.heap.size, 2, none⟩) (gb_put (p := ⟨w.heap.size, 1, none⟩) (gb_put (p := ⟨w.heap.size, 0, none⟩) (gb_refl W (some w.heap.size)) (.inl rfl) x0) (.inl rfl) x1) (.inl rfl) x2) (.inl rfl) x3
  exact ⟨(((h.res.put 0 x0).put 1 x1).put 2 x2).put 3 x3, h.rs.grown hg (by simp only [ne_eq, Option.some.injEq]; omega) (fun g e => by injection e with e; omega), gb_before h.gr hg (fun g e => .inr (by injection e with e; omega)), h.lab.keep hg (fun x hx => by have := h.far x hx; omega)⟩
end
theorem rc_ok {w : World} {q : Nat} {l : List UInt8} {i : I} {H2 : Nat} {A : Option Addr} {c k : Nat} {v0 v1 v2 v3 : Value} {W W4 : World} (h : RcS w q l H2 A i.l (.at k) v0 v1 v2 v3 W) (hf : Rs W4 q l (.at k) ∧ w.grownBy W4 (some q) ∧ Lies W4 W4.heap.size A (cells32 i.l)) :
    RGets q l (.ok i k) w (.returned (insV i A c)) W4 := ⟨A, c, rfl, hf.2.2, fun a ha => by have := h.far a ha; omega, hf.1, hf.2.1⟩
set_option maxHeartbeats 4000000 in
theorem refC_any {w : World} {q : Nat} {l : List UInt8} {k : Nat} (h : Rs w q l (.at k)) :
    Calls Tryz.prog 46 #[.pointer (some ⟨q, 0, none⟩)] w (RGets q l (readR l k) w) := by
  have hlt := h.lt
  have HZ := Lib.hid (h.alloc (.cells #[.int .u8 0, .int .u64 0, .int .u64 0, .slice none 0 0] 44))
  have y1 := at_at HZ.out
  have hG := refG_any HZ.out
  have HWM := Lib.hid (Whole.made w 44 #[.int .u8 0, .int .u64 0, .int .u64 0, .slice none 0 0])
  have hstart : ∀ (A : Option Addr) (ls : List Int) (s : RSt) (v0 v1 v2 v3 : Value) w1, Rs w1 q l s → (w.alloc (.cells #[.int .u8 0, .int .u64 0, .int .u64 0, .slice none 0 0] 44)).grownBy w1 (some q) → Lies w1 w1.heap.size A (cells32 ls) → (∀ a, A = some a → (w.alloc (.cells #[.int .u8 0, .int .u64 0, .int .u64 0, .slice none 0 0] 44)).heap.size ≤ a.block) →
      RcS w q l w1.heap.size A ls s v0 v1 v2 v3 (w1.alloc (.cells #[v0, v1, v2, v3] 44)) := fun A ls s v0 v1 v2 v3 w1 hs1 hg1 hla hfar => by
    have hz := hg1.size
    rw [size_box] at hz
    exact ⟨(HWM.out.grown hg1 (by simp only [ne_eq, Option.some.injEq]; omega)).alloc _, Whole.made _ _ _, hs1.alloc _, gb_alloc (gb_trans (gb_alloc (gb_refl w _) _) hg1) _, hlt, by omega, lies_box hla _, fun a ha => by have := hfar a ha; rw [size_box] at this; omega⟩
  have HST := Lib.hid hstart
  have HFB := Lib.hid (fun (W : World) (c a x y : Int) (h : Rs W q l (.bad c a)) (hx : x ≠ 0) => show Calls Tryz.prog 44 #[.pointer (some ⟨q, 0, none⟩), .int .i64 x, .int .i64 y] W fun e w' => e = .returned (.tuple #[]) ∧ Rs w' q l (.bad c a) ∧ W.grownBy w' (some q) from fail_ref h x y hx)
  have HBB := Lib.hid (fun (W : World) (c a : Int) (h : Rs W q l (.bad c a)) => show Calls Tryz.prog 65 #[.pointer (some ⟨q, 0, none⟩)] W fun e w' => e = .returned (.int .i64 0) ∧ Rs w' q l (.bad c a) ∧ W.grownBy w' (some q) from byte_ref h)
  have h12 : (12 : Int) ≠ 0 := by decide
  unfold readR
  cases hr : getR l k with
  | err ec ea =>
    rw [hr] at hG
    rw [Res.bind_err]
    have HG := Lib.hid (show Calls Tryz.prog 66 #[.pointer (some ⟨q, 0, none⟩)] (w.alloc (.cells #[.int .u8 0, .int .u64 0, .int .u64 0, .slice none 0 0] 44)) fun e w' => e = .returned (.agg #[.int .u8 0, .int .u64 0, .int .u64 0, .slice none 0 0]) ∧ Rs w' q l (.bad ec ea) ∧ (w.alloc (.cells #[.int .u8 0, .int .u64 0, .int .u64 0, .slice none 0 0] 44)).grownBy w' (some q) from hG)
    have hne : ∀ W, Rs W q l (.bad ec ea) → (ec != 0) = true ∧ (ec == 0) = false := fun W h => ⟨by simpa using h.nz, by simpa using h.nz⟩
    have HNE := Lib.hid hne
    clear h hG hr hstart hne HZ
    go_enter Tryz.func46, Tryz.ntmps46
    go_wp2_with (first
      | (go_at_call 66; go_must ((with_reducible refine HG.out.mono ?_); rintro e w1 ⟨rfl, hs, hg⟩; obtain ⟨dw, dw2⟩ := HNE.out _ hs; have HG1 := Lib.hid (HST.out none [] (.bad ec ea) (.int .u8 0) (.int .u64 0) (.int .u64 0) (.slice none 0 0) w1 hs hg (fun j v hv => by simp [cells32] at hv) (fun a e => by cases e)); have hh := HG1.out.h2; have hqq := HG1.out.hq; have n1 : ¬ w1.heap.size = w.heap.size := (by omega); have n2 : ¬ w.heap.size = w1.heap.size := (by omega); have n3 : ¬ w1.heap.size = q := (by omega); have n4 : ¬ q = w1.heap.size := (by omega); clear hh hqq; have c0 := HG1.out.box.cell 0; have c1 := HG1.out.box.cell 1; have c2 := HG1.out.box.cell 2; have c3 := HG1.out.box.cell 3; have r0 := HG1.out.res.cell 0; have r1 := HG1.out.res.cell 1; have r2 := HG1.out.res.cell 2; have r3 := HG1.out.res.cell 3; have z0 := HG1.out.res.frozen 0; have z1 := HG1.out.res.frozen 1; have z2 := HG1.out.res.frozen 2; have z3 := HG1.out.res.frozen 3; simp only [List.getElem?_toArray, List.getElem?_cons_zero, List.getElem?_cons_succ] at c0 c1 c2 c3 r0 r1 r2 r3; obtain ⟨jat1, x1⟩ := at_bad HG1.out.rs; have x2 := why_bad HG1.out.rs; clear hs hg y1))
      | (go_at_call 65; go_must ((with_reducible refine (HBB.out _ ec ea HG1.out.rs).mono ?_); rintro e w2 ⟨rfl, hs, hg⟩; clear c0 c1 c2 c3 r0 r1 r2 r3 z0 z1 z2 z3 x1 x2; have HG2 := Lib.hid (HG1.out.call hs hg); have c0 := HG2.out.box.cell 0; have c1 := HG2.out.box.cell 1; have c2 := HG2.out.box.cell 2; have c3 := HG2.out.box.cell 3; have r0 := HG2.out.res.cell 0; have r1 := HG2.out.res.cell 1; have r2 := HG2.out.res.cell 2; have r3 := HG2.out.res.cell 3; have z0 := HG2.out.res.frozen 0; have z1 := HG2.out.res.frozen 1; have z2 := HG2.out.res.frozen 2; have z3 := HG2.out.res.frozen 3; simp only [List.getElem?_toArray, List.getElem?_cons_zero, List.getElem?_cons_succ] at c0 c1 c2 c3 r0 r1 r2 r3; obtain ⟨jat2, x1⟩ := at_bad HG2.out.rs; have x2 := why_bad HG2.out.rs; clear hs hg))
      | (go_at_call 44; go_must ((with_reducible refine (HFB.out _ ec ea 12 _ HG2.out.rs h12).mono ?_); rintro e w3 ⟨rfl, hs, hg⟩; clear c0 c1 c2 c3 r0 r1 r2 r3 z0 z1 z2 z3 x1 x2; have HG3 := Lib.hid (HG2.out.call hs hg); have c0 := HG3.out.box.cell 0; have c1 := HG3.out.box.cell 1; have c2 := HG3.out.box.cell 2; have c3 := HG3.out.box.cell 3; have r0 := HG3.out.res.cell 0; have r1 := HG3.out.res.cell 1; have r2 := HG3.out.res.cell 2; have r3 := HG3.out.res.cell 3; have z0 := HG3.out.res.frozen 0; have z1 := HG3.out.res.frozen 1; have z2 := HG3.out.res.frozen 2; have z3 := HG3.out.res.frozen 3; simp only [List.getElem?_toArray, List.getElem?_cons_zero, List.getElem?_cons_succ] at c0 c1 c2 c3 r0 r1 r2 r3; obtain ⟨jat3, x1⟩ := at_bad HG3.out.rs; have x2 := why_bad HG3.out.rs; clear hs hg)))
    obtain ⟨q4, hf⟩ := HG3.out.fin (.int .u8 0) (.int .u64 0) (.int .u64 0) (.slice none 0 0) _ rfl
    have q0 := q4.cell 0
    have q1 := q4.cell 1
    have q2 := q4.cell 2
    have q3 := q4.cell 3
    simp only [List.getElem?_toArray, List.getElem?_cons_zero, List.getElem?_cons_succ] at q0 q1 q2 q3
    exact bodyPost_ret (v := .agg #[.int .u8 0, .int .u64 0, .int .u64 0, .slice none 0 0]) (by simp [results, Tryz.results46, go_sem, q0, q1, q2, q3]) rfl (rgets_no hf)
  | ok i k1 =>
    rw [hr] at hG
    rw [Res.bind_ok]
    obtain ⟨oi, hl10, hk1⟩ := getR_ok hr
    have HG := Lib.hid (show Calls Tryz.prog 66 #[.pointer (some ⟨q, 0, none⟩)] (w.alloc (.cells #[.int .u8 0, .int .u64 0, .int .u64 0, .slice none 0 0] 44)) fun e w' => ∃ A c, e = .returned (insV i A c) ∧ Lies w' w'.heap.size A (cells32 i.l) ∧ (∀ a, A = some a → (w.alloc (.cells #[.int .u8 0, .int .u64 0, .int .u64 0, .slice none 0 0] 44)).heap.size ≤ a.block) ∧ Rs w' q l (.at k1) ∧ (w.alloc (.cells #[.int .u8 0, .int .u64 0, .int .u64 0, .slice none 0 0] 44)).grownBy w' (some q) from hG)
    have HCR := Lib.hid (fun W (A : Option Addr) (c : Nat) => rcright_any i A c W oi (by omega))
    clear h hG hr hstart hl10 hk1 oi HZ
    obtain ⟨z, hz⟩ : ∃ z, z = crightZ i := ⟨_, rfl⟩
    rw [← hz] at HCR ⊢
    clear hz
    by_cases h0 : z = 0
    · subst h0
      rw [if_pos rfl]
      cases hb : byteR l k1 with
      | err ec ea =>
        rw [Res.bind_err]
        have HX := Lib.hid (fun W (h : Rs W q l (.at k1)) => show Calls Tryz.prog 65 #[.pointer (some ⟨q, 0, none⟩)] W fun e w' => e = .returned (.int .i64 0) ∧ Rs w' q l (.bad ec ea) ∧ W.grownBy w' (some q) from by have := byte_ref h; rw [show (RSt.at k1).bind (byteR l) = byteR l k1 from rfl, hb] at this; exact this)
        have dw : (ec != 0) = true := by have := byteR_nz hb; simpa using this
        have dw2 : (ec == 0) = false := by have := byteR_nz hb; simpa using this
        clear hb
        go_enter Tryz.func46, Tryz.ntmps46
        go_wp2_with (first
          | (go_at_call 66; go_must ((with_reducible refine HG.out.mono ?_); intro e w1 hqq; obtain ⟨A, c, rfl, hla, hfar, hs, hg⟩ := hqq; have HG1 := Lib.hid (HST.out A i.l (.at k1) (.int .u8 i.op.toNat) (.int .u64 i.a) (.int .u64 i.b) (.slice A i.l.length c) w1 hs hg hla hfar); have hh := HG1.out.h2; have hqq := HG1.out.hq; have n1 : ¬ w1.heap.size = w.heap.size := (by omega); have n2 : ¬ w.heap.size = w1.heap.size := (by omega); have n3 : ¬ w1.heap.size = q := (by omega); have n4 : ¬ q = w1.heap.size := (by omega); clear hh hqq; have c0 := HG1.out.box.cell 0; have c1 := HG1.out.box.cell 1; have c2 := HG1.out.box.cell 2; have c3 := HG1.out.box.cell 3; have r0 := HG1.out.res.cell 0; have r1 := HG1.out.res.cell 1; have r2 := HG1.out.res.cell 2; have r3 := HG1.out.res.cell 3; have z0 := HG1.out.res.frozen 0; have z1 := HG1.out.res.frozen 1; have z2 := HG1.out.res.frozen 2; have z3 := HG1.out.res.frozen 3; simp only [List.getElem?_toArray, List.getElem?_cons_zero, List.getElem?_cons_succ] at c0 c1 c2 c3 r0 r1 r2 r3; have x1 := at_at HG1.out.rs; have x2 := why_at HG1.out.rs; clear hs hg hla hfar y1))
          | (go_at_call 29; go_must ((with_reducible refine (HCR.out _ _ _).mono ?_); rintro e w2 ⟨rfl, hb⟩; clear c0 c1 c2 c3 r0 r1 r2 r3 z0 z1 z2 z3 x1 x2; have HG2 := Lib.hid (HG1.out.below hb); have c0 := HG2.out.box.cell 0; have c1 := HG2.out.box.cell 1; have c2 := HG2.out.box.cell 2; have c3 := HG2.out.box.cell 3; have r0 := HG2.out.res.cell 0; have r1 := HG2.out.res.cell 1; have r2 := HG2.out.res.cell 2; have r3 := HG2.out.res.cell 3; have z0 := HG2.out.res.frozen 0; have z1 := HG2.out.res.frozen 1; have z2 := HG2.out.res.frozen 2; have z3 := HG2.out.res.frozen 3; simp only [List.getElem?_toArray, List.getElem?_cons_zero, List.getElem?_cons_succ] at c0 c1 c2 c3 r0 r1 r2 r3; have x1 := at_at HG2.out.rs; have x2 := why_at HG2.out.rs; clear hb))
          | (go_at_call 65; go_must ((with_reducible refine (HX.out _ HG2.out.rs).mono ?_); rintro e w3 ⟨rfl, hs, hg⟩; clear c0 c1 c2 c3 r0 r1 r2 r3 z0 z1 z2 z3 x1 x2; have HG3 := Lib.hid (HG2.out.call hs hg); have c0 := HG3.out.box.cell 0; have c1 := HG3.out.box.cell 1; have c2 := HG3.out.box.cell 2; have c3 := HG3.out.box.cell 3; have r0 := HG3.out.res.cell 0; have r1 := HG3.out.res.cell 1; have r2 := HG3.out.res.cell 2; have r3 := HG3.out.res.cell 3; have z0 := HG3.out.res.frozen 0; have z1 := HG3.out.res.frozen 1; have z2 := HG3.out.res.frozen 2; have z3 := HG3.out.res.frozen 3; simp only [List.getElem?_toArray, List.getElem?_cons_zero, List.getElem?_cons_succ] at c0 c1 c2 c3 r0 r1 r2 r3; obtain ⟨jat3, x1⟩ := at_bad HG3.out.rs; have x2 := why_bad HG3.out.rs; clear hs hg))
          | (go_at_call 44; go_must ((with_reducible refine (HFB.out _ ec ea 12 _ HG3.out.rs h12).mono ?_); rintro e w4 ⟨rfl, hs, hg⟩; clear c0 c1 c2 c3 r0 r1 r2 r3 z0 z1 z2 z3 x1 x2; have HG4 := Lib.hid (HG3.out.call hs hg); have c0 := HG4.out.box.cell 0; have c1 := HG4.out.box.cell 1; have c2 := HG4.out.box.cell 2; have c3 := HG4.out.box.cell 3; have r0 := HG4.out.res.cell 0; have r1 := HG4.out.res.cell 1; have r2 := HG4.out.res.cell 2; have r3 := HG4.out.res.cell 3; have z0 := HG4.out.res.frozen 0; have z1 := HG4.out.res.frozen 1; have z2 := HG4.out.res.frozen 2; have z3 := HG4.out.res.frozen 3; simp only [List.getElem?_toArray, List.getElem?_cons_zero, List.getElem?_cons_succ] at c0 c1 c2 c3 r0 r1 r2 r3; obtain ⟨jat4, x1⟩ := at_bad HG4.out.rs; have x2 := why_bad HG4.out.rs; clear hs hg)))
        obtain ⟨q4, hf⟩ := HG4.out.fin (.int .u8 0) (.int .u64 0) (.int .u64 0) (.slice none 0 0) _ rfl
        have q0 := q4.cell 0
        have q1 := q4.cell 1
        have q2 := q4.cell 2
        have q3 := q4.cell 3
        simp only [List.getElem?_toArray, List.getElem?_cons_zero, List.getElem?_cons_succ] at q0 q1 q2 q3
        exact bodyPost_ret (v := .agg #[.int .u8 0, .int .u64 0, .int .u64 0, .slice none 0 0]) (by simp [results, Tryz.results46, go_sem, q0, q1, q2, q3]) rfl (rgets_no hf)
      | ok d k2 =>
        rw [Res.bind_ok]
        have HX := Lib.hid (fun W (h : Rs W q l (.at k1)) => show Calls Tryz.prog 65 #[.pointer (some ⟨q, 0, none⟩)] W fun e w' => e = .returned (.int .i64 d.toNat) ∧ Rs w' q l (.at k2) ∧ W.grownBy w' (some q) from by have := byte_ref h; rw [show (RSt.at k1).bind (byteR l) = byteR l k1 from rfl, hb] at this; exact this)
        clear hb
        by_cases hd : d = 11
        · rw [if_pos hd]
          have dd : ((d.toNat : Int) != 11) = false := by rw [hd]; rfl
          clear hd
          go_enter Tryz.func46, Tryz.ntmps46
          go_wp2_with (first
            | (go_at_call 66; go_must ((with_reducible refine HG.out.mono ?_); intro e w1 hqq; obtain ⟨A, c, rfl, hla, hfar, hs, hg⟩ := hqq; have HG1 := Lib.hid (HST.out A i.l (.at k1) (.int .u8 i.op.toNat) (.int .u64 i.a) (.int .u64 i.b) (.slice A i.l.length c) w1 hs hg hla hfar); have hh := HG1.out.h2; have hqq := HG1.out.hq; have n1 : ¬ w1.heap.size = w.heap.size := (by omega); have n2 : ¬ w.heap.size = w1.heap.size := (by omega); have n3 : ¬ w1.heap.size = q := (by omega); have n4 : ¬ q = w1.heap.size := (by omega); clear hh hqq; have c0 := HG1.out.box.cell 0; have c1 := HG1.out.box.cell 1; have c2 := HG1.out.box.cell 2; have c3 := HG1.out.box.cell 3; have r0 := HG1.out.res.cell 0; have r1 := HG1.out.res.cell 1; have r2 := HG1.out.res.cell 2; have r3 := HG1.out.res.cell 3; have z0 := HG1.out.res.frozen 0; have z1 := HG1.out.res.frozen 1; have z2 := HG1.out.res.frozen 2; have z3 := HG1.out.res.frozen 3; simp only [List.getElem?_toArray, List.getElem?_cons_zero, List.getElem?_cons_succ] at c0 c1 c2 c3 r0 r1 r2 r3; have x1 := at_at HG1.out.rs; have x2 := why_at HG1.out.rs; clear hs hg hla hfar y1))
            | (go_at_call 29; go_must ((with_reducible refine (HCR.out _ _ _).mono ?_); rintro e w2 ⟨rfl, hb⟩; clear c0 c1 c2 c3 r0 r1 r2 r3 z0 z1 z2 z3 x1 x2; have HG2 := Lib.hid (HG1.out.below hb); have c0 := HG2.out.box.cell 0; have c1 := HG2.out.box.cell 1; have c2 := HG2.out.box.cell 2; have c3 := HG2.out.box.cell 3; have r0 := HG2.out.res.cell 0; have r1 := HG2.out.res.cell 1; have r2 := HG2.out.res.cell 2; have r3 := HG2.out.res.cell 3; have z0 := HG2.out.res.frozen 0; have z1 := HG2.out.res.frozen 1; have z2 := HG2.out.res.frozen 2; have z3 := HG2.out.res.frozen 3; simp only [List.getElem?_toArray, List.getElem?_cons_zero, List.getElem?_cons_succ] at c0 c1 c2 c3 r0 r1 r2 r3; have x1 := at_at HG2.out.rs; have x2 := why_at HG2.out.rs; clear hb))
            | (go_at_call 65; go_must ((with_reducible refine (HX.out _ HG2.out.rs).mono ?_); rintro e w3 ⟨rfl, hs, hg⟩; clear c0 c1 c2 c3 r0 r1 r2 r3 z0 z1 z2 z3 x1 x2; have HG3 := Lib.hid (HG2.out.call hs hg); have c0 := HG3.out.box.cell 0; have c1 := HG3.out.box.cell 1; have c2 := HG3.out.box.cell 2; have c3 := HG3.out.box.cell 3; have r0 := HG3.out.res.cell 0; have r1 := HG3.out.res.cell 1; have r2 := HG3.out.res.cell 2; have r3 := HG3.out.res.cell 3; have z0 := HG3.out.res.frozen 0; have z1 := HG3.out.res.frozen 1; have z2 := HG3.out.res.frozen 2; have z3 := HG3.out.res.frozen 3; simp only [List.getElem?_toArray, List.getElem?_cons_zero, List.getElem?_cons_succ] at c0 c1 c2 c3 r0 r1 r2 r3; have x1 := at_at HG3.out.rs; have x2 := why_at HG3.out.rs; clear hs hg)))
          obtain ⟨q4, hf⟩ := HG3.out.fin (.int .u8 i.op.toNat) (.int .u64 i.a) (.int .u64 i.b) (.slice A i.l.length c) _ rfl
          have q0 := q4.cell 0
          have q1 := q4.cell 1
          have q2 := q4.cell 2
          have q3 := q4.cell 3
          simp only [List.getElem?_toArray, List.getElem?_cons_zero, List.getElem?_cons_succ] at q0 q1 q2 q3
          exact bodyPost_ret (v := insV i A c) (by simp [results, Tryz.results46, go_sem, q0, q1, q2, q3]) rfl (rc_ok HG3.out hf)
        · rw [if_neg hd]
          have dd : ((d.toNat : Int) != 11) = true := by
            have : d.toNat ≠ 11 := fun e => hd (UInt8.toNat_inj.1 (by rw [e]; rfl))
            simp; omega
          have HF := Lib.hid (fun W (h : Rs W q l (.at k2)) => show Calls Tryz.prog 44 #[.pointer (some ⟨q, 0, none⟩), .int .i64 12, .int .i64 k1] W fun e w' => e = .returned (.tuple #[]) ∧ Rs w' q l (.bad 12 k1) ∧ W.grownBy w' (some q) from fail_ref h 12 k1 h12)
          clear hd
          go_enter Tryz.func46, Tryz.ntmps46
          go_wp2_with (first
            | (go_at_call 66; go_must ((with_reducible refine HG.out.mono ?_); intro e w1 hqq; obtain ⟨A, c, rfl, hla, hfar, hs, hg⟩ := hqq; have HG1 := Lib.hid (HST.out A i.l (.at k1) (.int .u8 i.op.toNat) (.int .u64 i.a) (.int .u64 i.b) (.slice A i.l.length c) w1 hs hg hla hfar); have hh := HG1.out.h2; have hqq := HG1.out.hq; have n1 : ¬ w1.heap.size = w.heap.size := (by omega); have n2 : ¬ w.heap.size = w1.heap.size := (by omega); have n3 : ¬ w1.heap.size = q := (by omega); have n4 : ¬ q = w1.heap.size := (by omega); clear hh hqq; have c0 := HG1.out.box.cell 0; have c1 := HG1.out.box.cell 1; have c2 := HG1.out.box.cell 2; have c3 := HG1.out.box.cell 3; have r0 := HG1.out.res.cell 0; have r1 := HG1.out.res.cell 1; have r2 := HG1.out.res.cell 2; have r3 := HG1.out.res.cell 3; have z0 := HG1.out.res.frozen 0; have z1 := HG1.out.res.frozen 1; have z2 := HG1.out.res.frozen 2; have z3 := HG1.out.res.frozen 3; simp only [List.getElem?_toArray, List.getElem?_cons_zero, List.getElem?_cons_succ] at c0 c1 c2 c3 r0 r1 r2 r3; have x1 := at_at HG1.out.rs; have x2 := why_at HG1.out.rs; clear hs hg hla hfar y1))
            | (go_at_call 29; go_must ((with_reducible refine (HCR.out _ _ _).mono ?_); rintro e w2 ⟨rfl, hb⟩; clear c0 c1 c2 c3 r0 r1 r2 r3 z0 z1 z2 z3 x1 x2; have HG2 := Lib.hid (HG1.out.below hb); have c0 := HG2.out.box.cell 0; have c1 := HG2.out.box.cell 1; have c2 := HG2.out.box.cell 2; have c3 := HG2.out.box.cell 3; have r0 := HG2.out.res.cell 0; have r1 := HG2.out.res.cell 1; have r2 := HG2.out.res.cell 2; have r3 := HG2.out.res.cell 3; have z0 := HG2.out.res.frozen 0; have z1 := HG2.out.res.frozen 1; have z2 := HG2.out.res.frozen 2; have z3 := HG2.out.res.frozen 3; simp only [List.getElem?_toArray, List.getElem?_cons_zero, List.getElem?_cons_succ] at c0 c1 c2 c3 r0 r1 r2 r3; have x1 := at_at HG2.out.rs; have x2 := why_at HG2.out.rs; clear hb))
            | (go_at_call 65; go_must ((with_reducible refine (HX.out _ HG2.out.rs).mono ?_); rintro e w3 ⟨rfl, hs, hg⟩; clear c0 c1 c2 c3 r0 r1 r2 r3 z0 z1 z2 z3 x1 x2; have HG3 := Lib.hid (HG2.out.call hs hg); have c0 := HG3.out.box.cell 0; have c1 := HG3.out.box.cell 1; have c2 := HG3.out.box.cell 2; have c3 := HG3.out.box.cell 3; have r0 := HG3.out.res.cell 0; have r1 := HG3.out.res.cell 1; have r2 := HG3.out.res.cell 2; have r3 := HG3.out.res.cell 3; have z0 := HG3.out.res.frozen 0; have z1 := HG3.out.res.frozen 1; have z2 := HG3.out.res.frozen 2; have z3 := HG3.out.res.frozen 3; simp only [List.getElem?_toArray, List.getElem?_cons_zero, List.getElem?_cons_succ] at c0 c1 c2 c3 r0 r1 r2 r3; have x1 := at_at HG3.out.rs; have x2 := why_at HG3.out.rs; clear hs hg))
            | (go_at_call 44; go_must ((with_reducible refine (HF.out _ HG3.out.rs).mono ?_); rintro e w4 ⟨rfl, hs, hg⟩; clear c0 c1 c2 c3 r0 r1 r2 r3 z0 z1 z2 z3 x1 x2; have HG4 := Lib.hid (HG3.out.call hs hg); have c0 := HG4.out.box.cell 0; have c1 := HG4.out.box.cell 1; have c2 := HG4.out.box.cell 2; have c3 := HG4.out.box.cell 3; have r0 := HG4.out.res.cell 0; have r1 := HG4.out.res.cell 1; have r2 := HG4.out.res.cell 2; have r3 := HG4.out.res.cell 3; have z0 := HG4.out.res.frozen 0; have z1 := HG4.out.res.frozen 1; have z2 := HG4.out.res.frozen 2; have z3 := HG4.out.res.frozen 3; simp only [List.getElem?_toArray, List.getElem?_cons_zero, List.getElem?_cons_succ] at c0 c1 c2 c3 r0 r1 r2 r3; obtain ⟨jat4, x1⟩ := at_bad HG4.out.rs; have x2 := why_bad HG4.out.rs; clear hs hg)))
          obtain ⟨q4, hf⟩ := HG4.out.fin (.int .u8 0) (.int .u64 0) (.int .u64 0) (.slice none 0 0) _ rfl
          have q0 := q4.cell 0
          have q1 := q4.cell 1
          have q2 := q4.cell 2
          have q3 := q4.cell 3
          simp only [List.getElem?_toArray, List.getElem?_cons_zero, List.getElem?_cons_succ] at q0 q1 q2 q3
          exact bodyPost_ret (v := .agg #[.int .u8 0, .int .u64 0, .int .u64 0, .slice none 0 0]) (by simp [results, Tryz.results46, go_sem, q0, q1, q2, q3]) rfl (rgets_no hf)
    · rw [if_neg h0]
      have dz : (z != 0) = true := by simpa using h0
      have dz2 : (z == 0) = false := by simpa using h0
      have HF := Lib.hid (fun W (h : Rs W q l (.at k1)) => show Calls Tryz.prog 44 #[.pointer (some ⟨q, 0, none⟩), .int .i64 z, .int .i64 k] W fun e w' => e = .returned (.tuple #[]) ∧ Rs w' q l (.bad z k) ∧ W.grownBy w' (some q) from fail_ref h z k h0)
      clear h0
      go_enter Tryz.func46, Tryz.ntmps46
      go_wp2_with (first
        | (go_at_call 66; go_must ((with_reducible refine HG.out.mono ?_); intro e w1 hqq; obtain ⟨A, c, rfl, hla, hfar, hs, hg⟩ := hqq; have HG1 := Lib.hid (HST.out A i.l (.at k1) (.int .u8 i.op.toNat) (.int .u64 i.a) (.int .u64 i.b) (.slice A i.l.length c) w1 hs hg hla hfar); have hh := HG1.out.h2; have hqq := HG1.out.hq; have n1 : ¬ w1.heap.size = w.heap.size := (by omega); have n2 : ¬ w.heap.size = w1.heap.size := (by omega); have n3 : ¬ w1.heap.size = q := (by omega); have n4 : ¬ q = w1.heap.size := (by omega); clear hh hqq; have c0 := HG1.out.box.cell 0; have c1 := HG1.out.box.cell 1; have c2 := HG1.out.box.cell 2; have c3 := HG1.out.box.cell 3; have r0 := HG1.out.res.cell 0; have r1 := HG1.out.res.cell 1; have r2 := HG1.out.res.cell 2; have r3 := HG1.out.res.cell 3; have z0 := HG1.out.res.frozen 0; have z1 := HG1.out.res.frozen 1; have z2 := HG1.out.res.frozen 2; have z3 := HG1.out.res.frozen 3; simp only [List.getElem?_toArray, List.getElem?_cons_zero, List.getElem?_cons_succ] at c0 c1 c2 c3 r0 r1 r2 r3; have x1 := at_at HG1.out.rs; have x2 := why_at HG1.out.rs; clear hs hg hla hfar y1))
        | (have tok := HG2; go_at_call 29; go_must ((with_reducible refine (HCR.out _ _ _).mono ?_); rintro e w3 ⟨rfl, hb⟩; clear c0 c1 c2 c3 r0 r1 r2 r3 z0 z1 z2 z3 x1 x2; have HG3 := Lib.hid (HG2.out.below hb); have c0 := HG3.out.box.cell 0; have c1 := HG3.out.box.cell 1; have c2 := HG3.out.box.cell 2; have c3 := HG3.out.box.cell 3; have r0 := HG3.out.res.cell 0; have r1 := HG3.out.res.cell 1; have r2 := HG3.out.res.cell 2; have r3 := HG3.out.res.cell 3; have z0 := HG3.out.res.frozen 0; have z1 := HG3.out.res.frozen 1; have z2 := HG3.out.res.frozen 2; have z3 := HG3.out.res.frozen 3; simp only [List.getElem?_toArray, List.getElem?_cons_zero, List.getElem?_cons_succ] at c0 c1 c2 c3 r0 r1 r2 r3; have x1 := at_at HG3.out.rs; have x2 := why_at HG3.out.rs; clear hb))
        | (go_at_call 29; go_must ((with_reducible refine (HCR.out _ _ _).mono ?_); rintro e w2 ⟨rfl, hb⟩; clear c0 c1 c2 c3 r0 r1 r2 r3 z0 z1 z2 z3 x1 x2; have HG2 := Lib.hid (HG1.out.below hb); have c0 := HG2.out.box.cell 0; have c1 := HG2.out.box.cell 1; have c2 := HG2.out.box.cell 2; have c3 := HG2.out.box.cell 3; have r0 := HG2.out.res.cell 0; have r1 := HG2.out.res.cell 1; have r2 := HG2.out.res.cell 2; have r3 := HG2.out.res.cell 3; have z0 := HG2.out.res.frozen 0; have z1 := HG2.out.res.frozen 1; have z2 := HG2.out.res.frozen 2; have z3 := HG2.out.res.frozen 3; simp only [List.getElem?_toArray, List.getElem?_cons_zero, List.getElem?_cons_succ] at c0 c1 c2 c3 r0 r1 r2 r3; have x1 := at_at HG2.out.rs; have x2 := why_at HG2.out.rs; clear hb))
        | (have tok := HG5; go_at_call 44; go_must ((with_reducible refine (HFB.out _ z k 12 _ HG5.out.rs h12).mono ?_); rintro e w6 ⟨rfl, hs, hg⟩; clear c0 c1 c2 c3 r0 r1 r2 r3 z0 z1 z2 z3 x1 x2; have HG6 := Lib.hid (HG5.out.call hs hg); have c0 := HG6.out.box.cell 0; have c1 := HG6.out.box.cell 1; have c2 := HG6.out.box.cell 2; have c3 := HG6.out.box.cell 3; have r0 := HG6.out.res.cell 0; have r1 := HG6.out.res.cell 1; have r2 := HG6.out.res.cell 2; have r3 := HG6.out.res.cell 3; have z0 := HG6.out.res.frozen 0; have z1 := HG6.out.res.frozen 1; have z2 := HG6.out.res.frozen 2; have z3 := HG6.out.res.frozen 3; simp only [List.getElem?_toArray, List.getElem?_cons_zero, List.getElem?_cons_succ] at c0 c1 c2 c3 r0 r1 r2 r3; obtain ⟨jat6, x1⟩ := at_bad HG6.out.rs; have x2 := why_bad HG6.out.rs; clear hs hg))
        | (go_at_call 44; go_must ((with_reducible refine (HF.out _ HG3.out.rs).mono ?_); rintro e w4 ⟨rfl, hs, hg⟩; clear c0 c1 c2 c3 r0 r1 r2 r3 z0 z1 z2 z3 x1 x2; have HG4 := Lib.hid (HG3.out.call hs hg); have c0 := HG4.out.box.cell 0; have c1 := HG4.out.box.cell 1; have c2 := HG4.out.box.cell 2; have c3 := HG4.out.box.cell 3; have r0 := HG4.out.res.cell 0; have r1 := HG4.out.res.cell 1; have r2 := HG4.out.res.cell 2; have r3 := HG4.out.res.cell 3; have z0 := HG4.out.res.frozen 0; have z1 := HG4.out.res.frozen 1; have z2 := HG4.out.res.frozen 2; have z3 := HG4.out.res.frozen 3; simp only [List.getElem?_toArray, List.getElem?_cons_zero, List.getElem?_cons_succ] at c0 c1 c2 c3 r0 r1 r2 r3; obtain ⟨jat4, x1⟩ := at_bad HG4.out.rs; have x2 := why_bad HG4.out.rs; clear hs hg))
        | (go_at_call 65; go_must ((with_reducible refine (HBB.out _ z k HG4.out.rs).mono ?_); rintro e w5 ⟨rfl, hs, hg⟩; clear c0 c1 c2 c3 r0 r1 r2 r3 z0 z1 z2 z3 x1 x2; have HG5 := Lib.hid (HG4.out.call hs hg); have c0 := HG5.out.box.cell 0; have c1 := HG5.out.box.cell 1; have c2 := HG5.out.box.cell 2; have c3 := HG5.out.box.cell 3; have r0 := HG5.out.res.cell 0; have r1 := HG5.out.res.cell 1; have r2 := HG5.out.res.cell 2; have r3 := HG5.out.res.cell 3; have z0 := HG5.out.res.frozen 0; have z1 := HG5.out.res.frozen 1; have z2 := HG5.out.res.frozen 2; have z3 := HG5.out.res.frozen 3; simp only [List.getElem?_toArray, List.getElem?_cons_zero, List.getElem?_cons_succ] at c0 c1 c2 c3 r0 r1 r2 r3; obtain ⟨jat5, x1⟩ := at_bad HG5.out.rs; have x2 := why_bad HG5.out.rs; clear hs hg)))
      obtain ⟨q4, hf⟩ := HG6.out.fin (.int .u8 0) (.int .u64 0) (.int .u64 0) (.slice none 0 0) _ rfl
      have q0 := q4.cell 0
      have q1 := q4.cell 1
      have q2 := q4.cell 2
      have q3 := q4.cell 3
      simp only [List.getElem?_toArray, List.getElem?_cons_zero, List.getElem?_cons_succ] at q0 q1 q2 q3
      exact bodyPost_ret (v := .agg #[.int .u8 0, .int .u64 0, .int .u64 0, .slice none 0 0]) (by simp [results, Tryz.results46, go_sem, q0, q1, q2, q3]) rfl (rgets_no hf)
end Go.Proofs.YticgmfeihdankaaGreatDoor

/- The reference's instruction and constant expression behind an error; whatever the reader's state. -/
namespace Go.Proofs.YticgmfeihdankaaGreatDoor
open Go.RowKit
set_option linter.unusedVariables false
set_option maxRecDepth 100000

set_option maxHeartbeats 8000000 in
theorem refG_bad {w : World} {q : Nat} {l : List UInt8} {ec ea : Int} (h : Rs w q l (.bad ec ea)) :
    Calls Tryz.prog 66 #[.pointer (some ⟨q, 0, none⟩)] w (RGets q l (.err ec ea) w) := by
  have hlt := h.lt
  have HZ := Lib.hid (h.alloc (.cells #[.int .u8 0, .int .u64 0, .int .u64 0, .slice none 0 0] 44))
  obtain ⟨jy, y1⟩ := at_bad HZ.out
  have hnz := h.nz
  have hB := byte_ref HZ.out
  have HWM := Lib.hid (Whole.made w 44 #[.int .u8 0, .int .u64 0, .int .u64 0, .slice none 0 0])
  have hstart : ∀ (x : Int) (s : RSt) w1, Rs w1 q l s → (w.alloc (.cells #[.int .u8 0, .int .u64 0, .int .u64 0, .slice none 0 0] 44)).grownBy w1 (some q) → RGt w q l w1.heap.size none [] s (.int .u8 x) (.int .u64 0) (.int .u64 0) (.slice none 0 0) (w1.alloc (.cells #[.int .u8 x, .int .u64 0, .int .u64 0, .slice none 0 0] 44)) := fun x s w1 hs1 hg1 => by
    have hz := hg1.size
    rw [size_box] at hz
    exact ⟨(HWM.out.grown hg1 (by simp only [ne_eq, Option.some.injEq]; omega)).alloc _, Whole.made _ _ _, hs1.alloc _, gb_alloc (gb_trans (gb_alloc (gb_refl w _) _) hg1) _, hlt, by omega, (fun j v hv => by simp [cells32] at hv), (fun a e => by cases e)⟩
  have HBY := Lib.hid (show Calls Tryz.prog 65 #[.pointer (some ⟨q, 0, none⟩)] (w.alloc (.cells #[.int .u8 0, .int .u64 0, .int .u64 0, .slice none 0 0] 44)) fun e w' => e = .returned (.int .i64 0) ∧ Rs w' q l (.bad ec ea) ∧ (w.alloc (.cells #[.int .u8 0, .int .u64 0, .int .u64 0, .slice none 0 0] 44)).grownBy w' (some q) from hB)
  have HST := Lib.hid (hstart 0 (.bad ec ea))
  have dw : (ec != 0) = true := by simpa using hnz
  have dw2 : (ec == 0) = false := by simpa using hnz
  clear h hB hstart HZ hnz
  go_enter Tryz.func66, Tryz.ntmps66
  go_wp2_with (first
    | (go_at_call 65; go_must ((with_reducible refine HBY.out.mono ?_); rintro e w1 ⟨rfl, hs, hg⟩; have HG1 := Lib.hid (HST.out w1 hs hg); have hh := HG1.out.h2; have hqq := HG1.out.hq; have n1 : ¬ w1.heap.size = w.heap.size := (by omega); have n2 : ¬ w.heap.size = w1.heap.size := (by omega); have n3 : ¬ w1.heap.size = q := (by omega); have n4 : ¬ q = w1.heap.size := (by omega); have c0 := HG1.out.box.cell 0; have c1 := HG1.out.box.cell 1; have c2 := HG1.out.box.cell 2; have c3 := HG1.out.box.cell 3; have f1 := HG1.out.box.frozen 1; have f2 := HG1.out.box.frozen 2; have f3 := HG1.out.box.frozen 3; have r0 := HG1.out.res.cell 0; have r1 := HG1.out.res.cell 1; have r2 := HG1.out.res.cell 2; have r3 := HG1.out.res.cell 3; have z0 := HG1.out.res.frozen 0; have z1 := HG1.out.res.frozen 1; have z2 := HG1.out.res.frozen 2; have z3 := HG1.out.res.frozen 3; simp only [List.getElem?_toArray, List.getElem?_cons_zero, List.getElem?_cons_succ] at c0 c1 c2 c3 r0 r1 r2 r3; obtain ⟨jat, x1⟩ := at_bad HG1.out.rs; have x2 := why_bad HG1.out.rs; clear hs hg hh hqq y1)))
  obtain ⟨q4, hf⟩ := RGt.fin (HG1.out) (.int .u8 0) (.int .u64 0) (.int .u64 0) (.slice none 0 0) _ rfl
  have q0 := q4.cell 0
  have q1 := q4.cell 1
  have q2 := q4.cell 2
  have q3 := q4.cell 3
  simp only [List.getElem?_toArray, List.getElem?_cons_zero, List.getElem?_cons_succ] at q0 q1 q2 q3
  exact bodyPost_ret (v := .agg #[.int .u8 0, .int .u64 0, .int .u64 0, .slice none 0 0]) (by simp [results, Tryz.results66, go_sem, q0, q1, q2, q3]) rfl (rgets_no hf)
set_option maxHeartbeats 4000000 in
theorem refC_bad {w : World} {q : Nat} {l : List UInt8} {ec ea : Int} (h : Rs w q l (.bad ec ea)) :
    Calls Tryz.prog 46 #[.pointer (some ⟨q, 0, none⟩)] w (RGets q l (.err ec ea) w) := by
  have hlt := h.lt
  have HZ := Lib.hid (h.alloc (.cells #[.int .u8 0, .int .u64 0, .int .u64 0, .slice none 0 0] 44))
  obtain ⟨jy, y1⟩ := at_bad HZ.out
  have hG := refG_bad HZ.out
  have HWM := Lib.hid (Whole.made w 44 #[.int .u8 0, .int .u64 0, .int .u64 0, .slice none 0 0])
  have hstart : ∀ (A : Option Addr) (ls : List Int) (s : RSt) (v0 v1 v2 v3 : Value) w1, Rs w1 q l s → (w.alloc (.cells #[.int .u8 0, .int .u64 0, .int .u64 0, .slice none 0 0] 44)).grownBy w1 (some q) → Lies w1 w1.heap.size A (cells32 ls) → (∀ a, A = some a → (w.alloc (.cells #[.int .u8 0, .int .u64 0, .int .u64 0, .slice none 0 0] 44)).heap.size ≤ a.block) →
      RcS w q l w1.heap.size A ls s v0 v1 v2 v3 (w1.alloc (.cells #[v0, v1, v2, v3] 44)) := fun A ls s v0 v1 v2 v3 w1 hs1 hg1 hla hfar => by
    have hz := hg1.size
    rw [size_box] at hz
    exact ⟨(HWM.out.grown hg1 (by simp only [ne_eq, Option.some.injEq]; omega)).alloc _, Whole.made _ _ _, hs1.alloc _, gb_alloc (gb_trans (gb_alloc (gb_refl w _) _) hg1) _, hlt, by omega, lies_box hla _, fun a ha => by have := hfar a ha; rw [size_box] at this; omega⟩
  have HST := Lib.hid hstart
  have HFB := Lib.hid (fun (W : World) (c a x y : Int) (h : Rs W q l (.bad c a)) (hx : x ≠ 0) => show Calls Tryz.prog 44 #[.pointer (some ⟨q, 0, none⟩), .int .i64 x, .int .i64 y] W fun e w' => e = .returned (.tuple #[]) ∧ Rs w' q l (.bad c a) ∧ W.grownBy w' (some q) from fail_ref h x y hx)
  have HBB := Lib.hid (fun (W : World) (c a : Int) (h : Rs W q l (.bad c a)) => show Calls Tryz.prog 65 #[.pointer (some ⟨q, 0, none⟩)] W fun e w' => e = .returned (.int .i64 0) ∧ Rs w' q l (.bad c a) ∧ W.grownBy w' (some q) from byte_ref h)
  have h12 : (12 : Int) ≠ 0 := by decide
  have HG := Lib.hid (show Calls Tryz.prog 66 #[.pointer (some ⟨q, 0, none⟩)] (w.alloc (.cells #[.int .u8 0, .int .u64 0, .int .u64 0, .slice none 0 0] 44)) fun e w' => e = .returned (.agg #[.int .u8 0, .int .u64 0, .int .u64 0, .slice none 0 0]) ∧ Rs w' q l (.bad ec ea) ∧ (w.alloc (.cells #[.int .u8 0, .int .u64 0, .int .u64 0, .slice none 0 0] 44)).grownBy w' (some q) from hG)
  have hne : ∀ W, Rs W q l (.bad ec ea) → (ec != 0) = true ∧ (ec == 0) = false := fun W h => ⟨by simpa using h.nz, by simpa using h.nz⟩
  have HNE := Lib.hid hne
  clear h hG hstart hne HZ
  go_enter Tryz.func46, Tryz.ntmps46
  go_wp2_with (first
    | (go_at_call 66; go_must ((with_reducible refine HG.out.mono ?_); rintro e w1 ⟨rfl, hs, hg⟩; obtain ⟨dw, dw2⟩ := HNE.out _ hs; have HG1 := Lib.hid (HST.out none [] (.bad ec ea) (.int .u8 0) (.int .u64 0) (.int .u64 0) (.slice none 0 0) w1 hs hg (fun j v hv => by simp [cells32] at hv) (fun a e => by cases e)); have hh := HG1.out.h2; have hqq := HG1.out.hq; have n1 : ¬ w1.heap.size = w.heap.size := (by omega); have n2 : ¬ w.heap.size = w1.heap.size := (by omega); have n3 : ¬ w1.heap.size = q := (by omega); have n4 : ¬ q = w1.heap.size := (by omega); clear hh hqq; have c0 := HG1.out.box.cell 0; have c1 := HG1.out.box.cell 1; have c2 := HG1.out.box.cell 2; have c3 := HG1.out.box.cell 3; have r0 := HG1.out.res.cell 0; have r1 := HG1.out.res.cell 1; have r2 := HG1.out.res.cell 2; have r3 := HG1.out.res.cell 3; have z0 := HG1.out.res.frozen 0; have z1 := HG1.out.res.frozen 1; have z2 := HG1.out.res.frozen 2; have z3 := HG1.out.res.frozen 3; simp only [List.getElem?_toArray, List.getElem?_cons_zero, List.getElem?_cons_succ] at c0 c1 c2 c3 r0 r1 r2 r3; obtain ⟨jat1, x1⟩ := at_bad HG1.out.rs; have x2 := why_bad HG1.out.rs; clear hs hg y1))
    | (go_at_call 65; go_must ((with_reducible refine (HBB.out _ ec ea HG1.out.rs).mono ?_); rintro e w2 ⟨rfl, hs, hg⟩; clear c0 c1 c2 c3 r0 r1 r2 r3 z0 z1 z2 z3 x1 x2; have HG2 := Lib.hid (HG1.out.call hs hg); have c0 := HG2.out.box.cell 0; have c1 := HG2.out.box.cell 1; have c2 := HG2.out.box.cell 2; have c3 := HG2.out.box.cell 3; have r0 := HG2.out.res.cell 0; have r1 := HG2.out.res.cell 1; have r2 := HG2.out.res.cell 2; have r3 := HG2.out.res.cell 3; have z0 := HG2.out.res.frozen 0; have z1 := HG2.out.res.frozen 1; have z2 := HG2.out.res.frozen 2; have z3 := HG2.out.res.frozen 3; simp only [List.getElem?_toArray, List.getElem?_cons_zero, List.getElem?_cons_succ] at c0 c1 c2 c3 r0 r1 r2 r3; obtain ⟨jat2, x1⟩ := at_bad HG2.out.rs; have x2 := why_bad HG2.out.rs; clear hs hg))
    | (go_at_call 44; go_must ((with_reducible refine (HFB.out _ ec ea 12 _ HG2.out.rs h12).mono ?_); rintro e w3 ⟨rfl, hs, hg⟩; clear c0 c1 c2 c3 r0 r1 r2 r3 z0 z1 z2 z3 x1 x2; have HG3 := Lib.hid (HG2.out.call hs hg); have c0 := HG3.out.box.cell 0; have c1 := HG3.out.box.cell 1; have c2 := HG3.out.box.cell 2; have c3 := HG3.out.box.cell 3; have r0 := HG3.out.res.cell 0; have r1 := HG3.out.res.cell 1; have r2 := HG3.out.res.cell 2; have r3 := HG3.out.res.cell 3; have z0 := HG3.out.res.frozen 0; have z1 := HG3.out.res.frozen 1; have z2 := HG3.out.res.frozen 2; have z3 := HG3.out.res.frozen 3; simp only [List.getElem?_toArray, List.getElem?_cons_zero, List.getElem?_cons_succ] at c0 c1 c2 c3 r0 r1 r2 r3; obtain ⟨jat3, x1⟩ := at_bad HG3.out.rs; have x2 := why_bad HG3.out.rs; clear hs hg)))
  obtain ⟨q4, hf⟩ := HG3.out.fin (.int .u8 0) (.int .u64 0) (.int .u64 0) (.slice none 0 0) _ rfl
  have q0 := q4.cell 0
  have q1 := q4.cell 1
  have q2 := q4.cell 2
  have q3 := q4.cell 3
  simp only [List.getElem?_toArray, List.getElem?_cons_zero, List.getElem?_cons_succ] at q0 q1 q2 q3
  exact bodyPost_ret (v := .agg #[.int .u8 0, .int .u64 0, .int .u64 0, .slice none 0 0]) (by simp [results, Tryz.results46, go_sem, q0, q1, q2, q3]) rfl (rgets_no hf)
/-- Whatever its state. -/
theorem refC_st {w : World} {q : Nat} {l : List UInt8} {s : RSt} (h : Rs w q l s) :
    Calls Tryz.prog 46 #[.pointer (some ⟨q, 0, none⟩)] w (RGets q l (s.bind (readR l)) w) := by
  cases s with
  | «at» k => exact refC_any h
  | bad c a => exact refC_bad h
/-- A constant expression; behind an error the zero value. -/
theorem refC_v {w : World} {q : Nat} {l : List UInt8} {s : RSt} (h : Rs w q l s) :
    Calls Tryz.prog 46 #[.pointer (some ⟨q, 0, none⟩)] w fun e w' => ∃ (i : I) (A : Option Addr) (c : Nat), e = .returned (insV i A c) ∧ Rs w' q l (stOf (s.bind (readR l))) ∧ (∀ y k, s.bind (readR l) = .ok y k → i = y) ∧ w.grownBy w' (some q) := by
  refine (refC_st h).mono ?_
  intro e w' hq
  cases hr : s.bind (readR l) with
  | err c a =>
    rw [hr] at hq
    obtain ⟨rfl, h1, h2⟩ := hq
    exact ⟨⟨0, 0, 0, []⟩, none, 0, rfl, h1, (fun y k e => by cases e), h2⟩
  | ok i k =>
    rw [hr] at hq
    obtain ⟨A, c, rfl, _, _, h1, h2⟩ := hq
    exact ⟨i, A, c, rfl, h1, (fun y k e => by injection e with e1 e2), h2⟩
end Go.Proofs.YticgmfeihdankaaGreatDoor
