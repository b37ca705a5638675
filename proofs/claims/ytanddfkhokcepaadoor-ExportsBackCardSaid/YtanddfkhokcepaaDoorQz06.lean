/- sect.number, contents, Next. -/
import Derived.Test.YtanddfkhokcepaaDoorQz05
import Derived.Test.YtanddfkhokcepaaDoorQz01
import Derived.Test.YtanddfkhokcepaaDoorQz03
import Derived.Deep.QuietTactic
import Derived.Deep.LoopGhost
import Derived.OwnWalk
namespace Go.Proofs.YtanddfkhokcepaaDoor
open Go.RowKit Go.Lib
set_option linter.unusedVariables false
set_option maxRecDepth 100000

/-- A section: its number, its name, its bytes, where these begin. -/
structure Sct where
  id : UInt8
  name : List UInt8
  body : List UInt8
  off : Int
/-- A section's number. -/
def numR (l : List UInt8) (k : Nat) : Res UInt8 := (byteR l k).bind fun c k' => if (c.toNat : Int) ≤ 11 then .ok c k' else .err 6 k
theorem byteR_ok {l : List UInt8} {k : Nat} {c : UInt8} {k' : Nat} (h : byteR l k = .ok c k') : k' = k + 1 ∧ k < l.length := by
  unfold byteR at h
  cases hl : l[k]? with
  | none => rw [hl] at h; cases h
  | some d =>
    rw [hl] at h
    injection h with h1 h2
    exact ⟨h2.symm, (List.getElem?_eq_some_iff.1 hl).1⟩
theorem byteR_err {l : List UInt8} {k : Nat} {c a : Int} (h : byteR l k = .err c a) : c = 2 ∧ a = k := by
  unfold byteR at h
  cases hl : l[k]? with
  | none => rw [hl] at h; injection h with h1 h2; exact ⟨h1.symm, h2.symm⟩
  | some d => rw [hl] at h; cases h
theorem numR_ok {l : List UInt8} {k : Nat} {c : UInt8} {k' : Nat} (h : numR l k = .ok c k') : k' = k + 1 ∧ k < l.length := by
  unfold numR at h
  cases hr : byteR l k with
  | ok d k2 =>
    rw [hr, Res.bind_ok] at h
    split at h
    · injection h with h1 h2; subst h1; subst h2; exact byteR_ok hr
    · cases h
  | err c2 a => rw [hr, Res.bind_err] at h; cases h
theorem numR_err {l : List UInt8} {k : Nat} {c a : Int} (h : numR l k = .err c a) : c ≠ 0 := by
  unfold numR at h
  cases hr : byteR l k with
  | ok d k2 =>
    rw [hr, Res.bind_ok] at h
    split at h
    · cases h
    · injection h with h1 h2; omega
  | err c2 a2 =>
    rw [hr, Res.bind_err] at h
    injection h with h1 h2
    have := (byteR_err hr).1
    omega
theorem num_sect {w : World} {p : Nat} {l : List UInt8} {k : Nat} (h : Sc w p l k) :
    Calls Tryd.prog 123 #[.pointer (some ⟨p, 0, none⟩)] w (Did encB p l w (numR l k)) := by
  have hN := byte_any h
  have HA := Lib.hid (at_any h)
  unfold numR
  cases hr : byteR l k with
  | ok c k' =>
    rw [hr] at hN
    rw [Res.bind_ok]
    have HN := Lib.hid hN
    clear hN hr h
    by_cases hm : (c.toNat : Int) ≤ 11
    · rw [if_pos hm]
      have d1 : decide ((c.toNat : Int) ≤ 11) = true := by simpa using hm
      have d2 : decide (c.toNat ≤ 11) = true := by simp; omega
      clear hm
      go_enter Tryd.func123, Tryd.ntmps123
      go_wp2_with (first
        | (go_at_call 103; go_must ((with_reducible refine HA.out.mono ?_); rintro e w1 ⟨rfl, rfl⟩))
        | (go_at_call 113; go_must ((with_reducible refine HN.out.mono ?_); rintro e w1 ⟨rfl, hs, hg⟩; have HS := Lib.hid hs; have HG := Lib.hid hg; clear hs hg))
        | (go_at_call 66; go_must ((with_reducible refine (unlessT _ _ _).mono ?_); rintro e w' ⟨rfl, rfl⟩)))
      go_ret
      exact ⟨rfl, HS.out, HG.out⟩
    · rw [if_neg hm]
      have d1 : decide ((c.toNat : Int) ≤ 11) = false := by simpa using hm
      have d2 : decide (c.toNat ≤ 11) = false := by simp; omega
      clear hm
      go_enter Tryd.func123, Tryd.ntmps123
      go_wp2_with (first
        | (go_at_call 103; go_must ((with_reducible refine HA.out.mono ?_); rintro e w1 ⟨rfl, rfl⟩))
        | (go_at_call 113; go_must ((with_reducible refine HN.out.mono ?_); rintro e w1 ⟨rfl, hs, hg⟩; have HS := Lib.hid hs; have HG := Lib.hid hg; clear hs hg))
        | (go_at_call 66; go_must ((with_reducible refine (unlessF _ _ _).mono ?_); rintro e w' ⟨rfl, rfl⟩)))
      exact ⟨rfl, rfl, HG.out⟩
  | err c2 a =>
    rw [hr] at hN
    rw [Res.bind_err]
    have HN := Lib.hid hN
    clear hN hr h
    go_enter Tryd.func123, Tryd.ntmps123
    go_wp2_with (first
      | (go_at_call 103; go_must ((with_reducible refine HA.out.mono ?_); rintro e w1 ⟨rfl, rfl⟩))
      | (go_at_call 113; go_must ((with_reducible refine HN.out.mono ?_); rintro e w1 ⟨rfl, hg⟩; have HG := Lib.hid hg; clear hg)))
    exact ⟨rfl, rfl, HG.out⟩

/-- How many bytes follow, and where they begin. -/
noncomputable def contR (l : List UInt8) (k : Nat) : Res Nat := (indexR l k).bind fun v k' => if k' + v.toNat ≤ l.length then .ok v.toNat k' else .err 2 k'
theorem contR_ok {l : List UInt8} {k n k' : Nat} (h : contR l k = .ok n k') : k < k' ∧ k' + n ≤ l.length := by
  unfold contR at h
  cases hr : indexR l k with
  | ok v k2 =>
    rw [hr, Res.bind_ok] at h
    split at h
    · injection h with h1 h2; subst h1; subst h2; exact ⟨uintR_lt (show uintR l k 32 = .ok v k2 from hr), by assumption⟩
    · cases h
  | err c2 a => rw [hr, Res.bind_err] at h; cases h
theorem contR_err {l : List UInt8} {k : Nat} {c a : Int} (h : contR l k = .err c a) : c ≠ 0 := by
  unfold contR at h
  cases hr : indexR l k with
  | ok v k2 =>
    rw [hr, Res.bind_ok] at h
    split at h
    · cases h
    · injection h with h1 h2; omega
  | err c2 a2 =>
    rw [hr, Res.bind_err] at h
    injection h with h1 h2
    have := (uintR_err (show uintR l k 32 = .err c2 a2 from hr)).2
    omega
/-- What contents leaves behind. -/
def Cont (p : Nat) (l : List UInt8) (w : World) (r : Res Nat) (e : Ending) (w' : World) : Prop := match r with
  | .ok n k => ∃ q, e = .returned (.tuple #[.pointer (some ⟨q, 0, none⟩), .int .i64 k]) ∧ w.heap.size ≤ q ∧ Sc w' q ((l.drop k).take n) 0 ∧ Sc w' p l (k + n) ∧ w.grownBy w' (some p)
  | .err c a => e = .panicked (stopP c a) ∧ w.grownBy w' (some p)
set_option maxHeartbeats 800000 in
theorem cont_sect {w : World} {p : Nat} {l : List UInt8} {k : Nat} (h : Sc w p l k) :
    Calls Tryd.prog 124 #[.pointer (some ⟨p, 0, none⟩)] w (Cont p l w (contR l k)) := by
  have hN := index_scan h
  have hle := h.le.2
  unfold contR
  cases hr : indexR l k with
  | ok v k' =>
    rw [hr] at hN
    rw [Res.bind_ok]
    have HN := Lib.hid hN
    obtain ⟨hk, v0, v1⟩ := uintR_ok (show uintR l k 32 = .ok v k' from hr)
    obtain ⟨n, rfl⟩ : ∃ n : Nat, v = n := ⟨v.toNat, by omega⟩
    have v2 : (n : Int) < 4294967296 := v1
    have w1 : IntKind.u64.wrap (n : Int) = n := by simp [IntKind.wrap, IntKind.bits, IntKind.signed]; omega
    have w2 : IntKind.u64.wrap ((l.length : Int) - k') = (l.length : Int) - k' := by simp [IntKind.wrap, IntKind.bits, IntKind.signed]; omega
    have w3 : IntKind.i64.wrap (n : Int) = n := by rw [IntKind.wrap_i64]; omega
    rw [Int.toNat_natCast]
    clear hN hr h v0 v1
    by_cases hm : k' + n ≤ l.length
    · rw [if_pos hm]
      have d1 : decide ((n : Int) ≤ (l.length : Int) - k') = true := by simp; omega
      have d2 : (n : Int) ≤ (l.length : Int) - k' := by omega
      have HSu := Lib.hid (fun (W : World) (hs : Sc W p l k') => sub_ok hs n hm)
      clear hm
      go_enter Tryd.func124, Tryd.ntmps124
      go_wp2_with (first
        | (go_at_call 79; go_must ((with_reducible refine HN.out.mono ?_); rintro e w1 ⟨rfl, hs, hg⟩; have HS := Lib.hid hs; have HG := Lib.hid hg; clear hs hg))
        | (go_at_call 103; go_must ((with_reducible refine (at_any HS.out).mono ?_); rintro e w2 ⟨rfl, rfl⟩))
        | (go_at_call 28; go_must ((with_reducible refine (left_any HS.out).mono ?_); rintro e w2 ⟨rfl, m, rfl⟩))
        | (go_at_call 66; go_must ((with_reducible refine (unlessT _ _ _).mono ?_); rintro e w' ⟨rfl, rfl⟩))
        | (go_at_call 134; go_must ((with_reducible refine (HSu.out _ (HS.out.drewN m)).mono ?_); rintro e w3 ⟨q, rfl, hq, hs1, hs2, hg2⟩; have HQ := Lib.hid hq; have HS1 := Lib.hid hs1; have HS2 := Lib.hid hs2; have HG2 := Lib.hid (gb_trans (gb_drewN HG.out m) hg2); clear hq hs1 hs2 hg2)))
      go_ret2
      exact ⟨q, rfl, Nat.le_trans HG.out.size HQ.out, HS1.out, HS2.out, HG2.out⟩
    · rw [if_neg hm]
      have d1 : decide ((n : Int) ≤ (l.length : Int) - k') = false := by simp; omega
      have d2 : ¬ (n : Int) ≤ (l.length : Int) - k' := by omega
      clear hm
      go_enter Tryd.func124, Tryd.ntmps124
      go_wp2_with (first
        | (go_at_call 79; go_must ((with_reducible refine HN.out.mono ?_); rintro e w1 ⟨rfl, hs, hg⟩; have HS := Lib.hid hs; have HG := Lib.hid hg; clear hs hg))
        | (go_at_call 103; go_must ((with_reducible refine (at_any HS.out).mono ?_); rintro e w2 ⟨rfl, rfl⟩))
        | (go_at_call 28; go_must ((with_reducible refine (left_any HS.out).mono ?_); rintro e w2 ⟨rfl, m, rfl⟩))
        | (go_at_call 66; go_must ((with_reducible refine (unlessF _ _ _).mono ?_); rintro e w' ⟨rfl, rfl⟩)))
      exact ⟨rfl, rfl, gb_drewN HG.out m⟩
  | err c2 a =>
    rw [hr] at hN
    rw [Res.bind_err]
    have HN := Lib.hid hN
    clear hN hr h
    go_enter Tryd.func124, Tryd.ntmps124
    go_wp2_with (go_at_call 79; go_must ((with_reducible refine HN.out.mono ?_); rintro e w1 ⟨rfl, hg⟩; have HG := Lib.hid hg; clear hg))
    exact ⟨rfl, rfl, HG.out⟩
end Go.Proofs.YtanddfkhokcepaaDoor

/- Single steps of a region that draws its order: what makes memory or writes. -/
namespace Go.Proofs.YtanddfkhokcepaaDoor
open Go.RowKit
set_option linter.unusedVariables false

/-- []byte(s): its block. -/
def convRow (W : World) (s : ByteArray) : Obj := .cells (bytesRow s (grownCap W s.size 0 5)) 5 ((bytesRow s (grownCap W s.size 0 5)).size, (bytesRow s (grownCap W s.size 0 5)).size + 1)
theorem conv_run (s : ByteArray) (W : World) : (convert 9 25 (.string s)).run Tryd.prog W = .ok (.slice (some ⟨W.heap.size, 0, none⟩) s.size (grownCap W s.size 0 5)) (W.drew.alloc (convRow W s)) :=
  run_bytes_of_string (P := Tryd.prog) W 9 25 5 s Tryd.underlying9 Tryd.underlying25 Tryd.underlying5
theorem conv_lies (W : World) (l : List UInt8) : Lies (W.drew.alloc (convRow W (S l))) (W.heap.size + 1) (some ⟨W.heap.size, 0, none⟩) (cells (nums l)) := by
  intro i v hv
  refine ⟨W.heap.size, 0, rfl, by omega, ?_⟩
  have hi : i < l.length := by
    have := (List.getElem?_eq_some_iff.1 hv).1
    rw [cells_length, nums_length] at this
    exact this
  rw [Nat.zero_add, ← hv]
  have hr : (bytesRow (S l) (grownCap W (S l).size 0 5))[i]? = (cells (nums l))[i]? := by
    unfold bytesRow S cells nums
    simp [Array.getElem?_append, hi]
  rw [← hr]
  exact cell_of_row _ W.heap.size i _ _ _ (heap_alloc_new W.drew _)
theorem Lies.put {w : World} {B g bb : Nat} {vs : List Value} (h : Lies w B (some ⟨g, 0, none⟩) vs) (hne : g ≠ bb) (i : Nat) (v : Value) : Lies (w.setCell ⟨bb, i, none⟩ v) B (some ⟨g, 0, none⟩) vs := fun j u hu => by
  obtain ⟨b, off, e, h1, h2⟩ := h j u hu
  injection e with e
  injection e with e1 e2
  subst e1; subst e2
  refine ⟨g, 0, rfl, h1, ?_⟩
  rw [← h2]
  exact World.cell?_of_block (a := ⟨g, 0 + j, none⟩) (heap_setCell_other w ⟨bb, i, none⟩ g v hne)
section
variable {w : World} {ops : Array Oper} {o : Oper} {a : Act} {K : Act → World → Prop} {Q : Exit → Act → World → Prop} {E : Prop}
theorem step_value {v : Value} {w' : World} (hgd : o.guard = none) (h : (execOp a.eval o).run Tryd.prog w = .ok (.value v) w') (hK : K (a.put o.dst v) w') :
    if Region.wanted o (yielded ops a.tmps) = true then Oper.wp Tryd.prog o a w K Q else E := by
  have hw : Region.wanted o (yielded ops a.tmps) = true := by simp [Region.wanted, hgd]
  rw [if_pos hw]
  unfold Oper.wp
  rw [h]
  exact hK
theorem step_skip {w' : World} (hgd : o.guard = none) (h : (execOp a.eval o).run Tryd.prog w = .ok .skip w') (hK : K (a.put o.dst undef) w') :
    if Region.wanted o (yielded ops a.tmps) = true then Oper.wp Tryd.prog o a w K Q else E := by
  have hw : Region.wanted o (yielded ops a.tmps) = true := by simp [Region.wanted, hgd]
  rw [if_pos hw]
  unfold Oper.wp
  rw [h]
  exact hK
/-- A cell for a slice of bytes is made. -/
theorem step_alloc (hgd : o.guard = none) (ho : o.op = .alloc 25) (h : ∀ bb wa, w.heap.size ≤ bb → bb < wa.heap.size → Below w.heap.size w wa → Whole wa bb 25 #[.slice none 0 0] → K (a.put o.dst (.pointer (some ⟨bb, 0, none⟩))) wa) :
    if Region.wanted o (yielded ops a.tmps) = true then Oper.wp Tryd.prog o a w K Q else E := by
  refine step_value (w' := w.alloc (.cells #[.slice none 0 0] 25)) hgd ?_ (h _ _ (Nat.le_refl _) (by simp) (below_box w _) (Whole.made w _ _))
  cases o
  subst ho
  simp [go_sem]
/-- []byte(s). -/
theorem step_conv (hgd : o.guard = none) (x : Operand) (ho : o.op = .convert 9 25 x) (l : List UInt8) (hx : a.eval x = .string (S l))
    (h : ∀ g cap wc, w.heap.size ≤ g → g < wc.heap.size → l.length ≤ cap → Below w.heap.size w wc → Lies wc wc.heap.size (some ⟨g, 0, none⟩) (cells (nums l)) → K (a.put o.dst (.slice (some ⟨g, 0, none⟩) l.length cap)) wc) :
    if Region.wanted o (yielded ops a.tmps) = true then Oper.wp Tryd.prog o a w K Q else E := by
  have hr := conv_run (S l) w
  have hg := grownCap_ge w (S l).size 0 5
  rw [S_size] at hg
  refine step_value (v := .slice (some ⟨w.heap.size, 0, none⟩) l.length (grownCap w l.length 0 5)) (w' := w.drew.alloc (convRow w (S l))) hgd ?_ (h _ _ _ (Nat.le_refl _) (by simp) hg ((Below.refl _ _).drew.alloc (Nat.le_refl _) _) ((conv_lies w l).more (by simp)))
  cases o
  subst ho
  rw [S_size] at hr
  clear h
  generalize a.eval = ev at hx ⊢
  simp [go_sem, hx, hr]
/-- The cell is written. -/
theorem step_store (hgd : o.guard = none) (pa pv : Operand) (ho : o.op = .store 25 pa pv) (bb : Nat) (A : Option Addr) (n c : Nat) (hx : a.eval pa = .pointer (some ⟨bb, 0, none⟩)) (hv : a.eval pv = .slice A n c) {y : Value}
    (hw : Whole w bb 25 #[y]) (h : K (a.put o.dst undef) (w.setCell ⟨bb, 0, none⟩ (.slice A n c))) :
    if Region.wanted o (yielded ops a.tmps) = true then Oper.wp Tryd.prog o a w K Q else E := by
  have c0 := hw.cell 0
  have f0 := hw.frozen 0
  simp only [List.getElem?_toArray, List.getElem?_cons_zero] at c0
  refine step_skip hgd ?_ h
  cases o
  subst ho
  clear h
  generalize a.eval = ev at hx hv ⊢
  simp [go_sem, hx, hv, c0, f0]
end
end Go.Proofs.YtanddfkhokcepaaDoor

/- sect.Next of any bytes. -/
namespace Go.Proofs.YtanddfkhokcepaaDoor
open Go.RowKit Go.Lib
set_option linter.unusedVariables false
set_option maxRecDepth 100000

theorem size_box (w : World) (o : Obj) : (w.alloc o).heap.size = w.heap.size + 1 := by simp
def secZ : Array Value := #[.int .u8 0, .string { data := #[] }, .slice none 0 0, .int .i64 0]
def secC (c : UInt8) (t : List UInt8) (v : Value) (a : Int) : Array Value := #[.int .u8 c.toNat, .string (S t), v, .int .i64 a]
/-- What Next holds: the scanner p and that of the part, q, its result's block, the part's and the section's. -/
structure NX (w : World) (p q P X : Nat) (l part : List UInt8) (k j : Nat) (x : Array Value) (W : World) : Prop where
  sp : Sc W p l k
  sq : Sc W q part j
  r : Whole W w.heap.size 27 secZ
  c : Whole W P 54 #[.pointer (some ⟨q, 0, none⟩)]
  x : Whole W X 27 x
  g : w.grownBy W (some p)
  tb : TbN p W
  o : p < w.heap.size ∧ w.heap.size < q ∧ q < P ∧ P < X ∧ X < W.heap.size
section
variable {w W W' : World} {p q P X : Nat} {l part : List UInt8} {k j : Nat} {x : Array Value}
theorem NX.on {b : Nat} (h : NX w p q P X l part k j x W) (hg : W.grownBy W' (some b)) (hb : X < b) : NX w p q P X l part k j x W' := by
  obtain ⟨o1, o2, o3, o4, o5⟩ := h.o
  have n : ∀ a, a ≤ X → some a ≠ some b := fun a ha => by simp only [ne_eq, Option.some.injEq]; omega
  exact ⟨h.sp.grown hg (n _ (by omega)) (fun g e => by injection e with e; omega), h.sq.grown hg (n _ (by omega)) (fun g e => by injection e with e; omega), h.r.grown hg (n _ (by omega)), h.c.grown hg (n _ (by omega)), h.x.grown hg (n _ (by omega)),
    gb_before h.g hg (fun g e => .inr (by injection e with e; omega)), h.tb.keep hg (by omega), o1, o2, o3, o4, Nat.lt_of_lt_of_le o5 hg.size⟩
theorem NX.below (h : NX w p q P X l part k j x W) (hb : Below W.heap.size W W') : NX w p q P X l part k j x W' := h.on (gb_of_below (some W.heap.size) hb) h.o.2.2.2.2
theorem NX.onq {j' : Nat} (h : NX w p q P X l part k j x W) (hg : W.grownBy W' (some q)) (hs : Sc W' q part j') : NX w p q P X l part k j' x W' := by
  obtain ⟨o1, o2, o3, o4, o5⟩ := h.o
  have n : ∀ a, a ≠ q → some a ≠ some q := fun a ha => by simp only [ne_eq, Option.some.injEq]; omega
  exact ⟨h.sp.grown hg (n _ (by omega)) (fun g e => by injection e with e; omega), hs, h.r.grown hg (n _ (by omega)), h.c.grown hg (n _ (by omega)), h.x.grown hg (n _ (by omega)),
    gb_before h.g hg (fun g e => .inr (by injection e with e; omega)), h.tb.keep hg (by omega), o1, o2, o3, o4, Nat.lt_of_lt_of_le o5 hg.size⟩
theorem NX.onx {x' : Array Value} (h : NX w p q P X l part k j x W) (hg : W.grownBy W' (some X)) (hx : Whole W' X 27 x') : NX w p q P X l part k j x' W' := by
  obtain ⟨o1, o2, o3, o4, o5⟩ := h.o
  have n : ∀ a, a < X → some a ≠ some X := fun a ha => by simp only [ne_eq, Option.some.injEq]; omega
  exact ⟨h.sp.grown hg (n _ (by omega)) (fun g e => by injection e with e; omega), h.sq.grown hg (n _ (by omega)) (fun g e => by injection e with e; omega), h.r.grown hg (n _ (by omega)), h.c.grown hg (n _ (by omega)), hx,
    gb_before h.g hg (fun g e => .inr (by injection e with e; omega)), h.tb.keep hg (by omega), o1, o2, o3, o4, Nat.lt_of_lt_of_le o5 hg.size⟩
theorem NX.put (h : NX w p q P X l part k j x W) (i : Nat) (v : Value) : NX w p q P X l part k j (x.setIfInBounds i v) (W.setCell ⟨X, i, none⟩ v) :=
  h.onx (gb_put (p := ⟨X, i, none⟩) (gb_refl W _) (.inl rfl) v) (h.x.put i v)
theorem NX.drewN (h : NX w p q P X l part k j x W) (m : Nat) : NX w p q P X l part k j x (W.drewN m) := ⟨h.sp, h.sq, h.r, h.c, h.x, gb_drewN h.g m, h.tb, h.o⟩
end
theorem NX.start {w w2 : World} {p q : Nat} {l part : List UInt8} {k : Nat} (c : UInt8) (hs : Sc w2 p l k) (hq : Sc w2 q part 0) (hR : Whole w2 w.heap.size 27 secZ) (hg : w.grownBy w2 (some p)) (hT : TbN p w) (hp : p < w.heap.size) (ho : w.heap.size < q) :
    NX w p q w2.heap.size (w2.heap.size + 1) l part k 0 (secC c [] (.slice none 0 0) 0) ((w2.alloc (.cells #[.pointer (some ⟨q, 0, none⟩)] 54)).alloc (.cells #[.int .u8 c.toNat, .string { data := #[] }, .slice none 0 0, .int .i64 0] 27)) := by
  have hx := Whole.made (w2.alloc (.cells #[.pointer (some ⟨q, 0, none⟩)] 54)) 27 #[.int .u8 c.toNat, .string { data := #[] }, .slice none 0 0, .int .i64 0]
  rw [size_box] at hx
  have hqz := hq.lt
  exact ⟨(hs.alloc _).alloc _, (hq.alloc _).alloc _, (hR.alloc _).alloc _, (Whole.made _ _ _).alloc _, hx, gb_alloc (gb_alloc hg _) _, hT.keep (gb_alloc (gb_alloc hg _) _) (Nat.le_refl _), hp, ho, hqz, by omega, by rw [size_box, size_box]; omega⟩
theorem NX.drew {w W : World} {p q P X : Nat} {l part : List UInt8} {k j : Nat} {x : Array Value} (h : NX w p q P X l part k j x W) : NX w p q P X l part k j x W.drew := h.drewN 1
/-- With the cell that tells the part. -/
def NXC (w : World) (p q P X : Nat) (l part : List UInt8) (k j : Nat) (x : Array Value) (W : World) : Prop := NX w p q P X l part k j x W ∧ W.cell? ⟨P, 0, none⟩ = some (.pointer (some ⟨q, 0, none⟩))
theorem NX.two {w W : World} {p q P X : Nat} {l part : List UInt8} {k j : Nat} {x : Array Value} (h : NX w p q P X l part k j x W) : NX w p q P X l part k j x W ∧ W.cell? ⟨P, 0, none⟩ = some (.pointer (some ⟨q, 0, none⟩)) := ⟨h, h.c.cell 0⟩
theorem left_nat {w : World} {p : Nat} {l : List UInt8} {k : Nat} (h : Sc w p l k) :
    Calls Tryd.prog 28 #[.pointer (some ⟨p, 0, none⟩)] w fun e w' => e = .returned (.int .i64 ((l.length - k : Nat) : Int)) ∧ ∃ m, w' = w.drewN m :=
  (left_any h).mono fun e w' h1 => ⟨by rw [h1.1]; congr 2; have := h.le; omega, h1.2⟩
theorem left_nx {w W : World} {p q P X : Nat} {l part : List UInt8} {k j : Nat} {x : Array Value} (h : NX w p q P X l part k j x W ∧ W.cell? ⟨P, 0, none⟩ = some (.pointer (some ⟨q, 0, none⟩))) :
    Calls Tryd.prog 28 #[.pointer (some ⟨q, 0, none⟩)] W fun e w' => e = .returned (.int .i64 ((part.length - j : Nat) : Int)) ∧ NX w p q P X l part k j x w' ∧ w'.cell? ⟨P, 0, none⟩ = some (.pointer (some ⟨q, 0, none⟩)) :=
  (left_nat h.1.sq).mono fun e w' ⟨h1, m, h2⟩ => ⟨h1, by subst h2; exact (h.1.drewN m).two⟩
theorem Row.past {w w' : World} {B b : Nat} {v : Value} {xs : List UInt8} (h : Row w B v xs) (hg : w.grownBy w' (some b)) (hb : b < B) : Row w' B v xs :=
  World.ownsRow.kept h hg (by
    cases hv : v.ownBlock with
    | none => exact .inl rfl
    | some k => exact .inr (by have := (World.ownsRow.lt h k hv).1; simp only [ne_eq, Option.some.injEq]; omega))
theorem Row.slice {w : World} {B : Nat} {v : Value} {xs : List UInt8} (h : Row w B v xs) : ∃ A c, v = .slice A xs.length c := by
  obtain ⟨A, c, e, _⟩ := lies_own h
  exact ⟨A, c, e⟩
/-- Bytes of all that is left. -/
theorem bytes_rest {W : World} {q : Nat} {part y : List UInt8} {j : Nat} (h : Sc W q part j) (hy : y = part.drop j) (hj : j ≤ part.length) (hp : part.length ≤ 1000000) :
    Calls Tryd.prog 67 #[.pointer (some ⟨q, 0, none⟩), .int .i64 ((part.length - j : Nat) : Int)] W fun e w' => ∃ A c, e = .returned (.slice A y.length c) ∧ Row w' W.heap.size (.slice A y.length c) y ∧ Sc w' q part (j + (part.length - j)) ∧ W.grownBy w' (some q) :=
  (bytes_ok h (part.length - j) (by omega) hp).mono fun e w' ⟨v, h1, h2, h3, h4⟩ => by
    rw [show (part.drop j).take (part.length - j) = y by rw [hy]; exact List.take_of_length_le (by rw [List.length_drop]; omega)] at h2
    obtain ⟨A, c, rfl⟩ := h2.slice
    exact ⟨A, c, h1, h2, h3, h4⟩
theorem step_put {w : World} {ops : Array Oper} {o : Oper} {a : Act} {K : Act → World → Prop} {Q : Exit → Act → World → Prop} {E : Prop} (hgd : o.guard = none) (pa pv : Operand) (ho : o.op = .store 25 pa pv) (bb i : Nat) (A : Option Addr) (n c : Nat) (hx : a.eval pa = .pointer (some ⟨bb, i, none⟩)) (hv : a.eval pv = .slice A n c) {y : Value}
    (c0 : w.cell? ⟨bb, i, none⟩ = some y) (f0 : w.frozen? ⟨bb, i, none⟩ = false) (h : K (a.put o.dst undef) (w.setCell ⟨bb, i, none⟩ (.slice A n c))) :
    if Region.wanted o (yielded ops a.tmps) = true then Oper.wp Tryd.prog o a w K Q else E := by
  refine step_skip hgd ?_ h
  cases o
  subst ho
  clear h
  generalize a.eval = ev at hx hv ⊢
  simp [go_sem, hx, hv, c0, f0]
/-- The result is written. -/
theorem NX.fin {w W W4 : World} {p q P X : Nat} {l part : List UInt8} {k j B : Nat} {x : Array Value} {v : Value} {xs : List UInt8} (h : NX w p q P X l part k j x W) (hr : Row W B v xs) (hB : X < B) (x0 x1 x2 x3 : Value)
    (hW : W4 = (((W.setCell ⟨w.heap.size, 0, none⟩ x0).setCell ⟨w.heap.size, 1, none⟩ x1).setCell ⟨w.heap.size, 2, none⟩ x2).setCell ⟨w.heap.size, 3, none⟩ x3) :
    Whole W4 w.heap.size 27 #[x0, x1, x2, x3] ∧ Row W4 w.heap.size v xs ∧ Sc W4 p l k ∧ w.grownBy W4 (some p) := by
  subst hW
  obtain ⟨o1, o2, o3, o4, o5⟩ := h.o
  have hg := gb_put (p := ⟨w.heap.size, 3, none⟩) (gb_put (p := ⟨w.heap.size, 2, none⟩) (gb_put (p := ⟨w.heap.size, 1, none⟩) (gb_put (p := ⟨w.heap.size, 0, none⟩) (gb_refl W (some w.heap.size)) (.inl rfl) x0) (.inl rfl) x1) (.inl rfl) x2) (.inl rfl) x3
  exact ⟨(((h.r.put 0 x0).put 1 x1).put 2 x2).put 3 x3, (hr.past hg (by omega)).mono (by omega), h.sp.grown hg (by simp only [ne_eq, Option.some.injEq]; omega) (fun g e => by injection e with e; omega), gb_before h.g hg (fun g e => .inr (by injection e with e; omega))⟩
theorem cfN (cap : Array Value) (w : World) : (callFunc 126 cap).run Tryd.prog w = .ok (.enter 126 cap) w := by kernel_rfl
/-- What a step in Next ends with. -/
def NStep (w : World) (p q P X : Nat) (l part : List UInt8) (k : Nat) (x : List UInt8 → Array Value) (r : Res (List UInt8)) (e : Ending) (w' : World) : Prop := match r with
  | .ok t j => e = .returned (.tuple #[]) ∧ NX w p q P X l part k j (x t) w'
  | .err c a => e = .panicked (stopP c a) ∧ w.grownBy w' (some p) ∧ X < w'.heap.size ∧ Sc w' p l k
theorem nclos {w W : World} {p q P X : Nat} {l part : List UInt8} {k : Nat} {c : UInt8} {v : Value} {a : Int} (h : NX w p q P X l part k 0 (secC c [] v a) W) :
    Calls Tryd.prog 126 #[.pointer (some ⟨P, 0, none⟩), .pointer (some ⟨X, 0, none⟩)] W (fun e w' => NStep w p q P X l part k (fun t => secC c t v a) (nameR part 0) e w' ∧ ∃ W1, W.grownBy W1 (some q) ∧ W1.grownBy w' (some X)) := by
  obtain ⟨o1, o2, o3, o4, o5⟩ := h.o
  have hN := name_scan h.sq (h.tb.more (q := q) (by omega) (by omega))
  have c0 := h.c.cell 0
  simp only [List.getElem?_toArray, List.getElem?_cons_zero] at c0
  have H := Lib.hid h
  clear h
  cases hr : nameR part 0 with
  | ok t j =>
    rw [hr] at hN
    have HN := Lib.hid hN
    clear hN hr
    go_enter Tryd.func126, Tryd.ntmps126
    go_wp2_with (go_at_call 77; go_must ((with_reducible refine HN.out.mono ?_); rintro e w1 ⟨rfl, hs, hg⟩; have h1 := H.out.onq hg hs; have x1 := h1.x.cell 1; have f1 := h1.x.frozen 1; have H1 := Lib.hid h1; have HG := Lib.hid hg; clear hs hg h1))
    go_end0
    exact ⟨⟨rfl, H1.out.put 1 _⟩, _, HG.out, gb_put (p := ⟨X, 1, none⟩) (gb_refl _ _) (.inl rfl) _⟩
  | err c2 a2 =>
    rw [hr] at hN
    have HN := Lib.hid hN
    clear hN hr
    go_enter Tryd.func126, Tryd.ntmps126
    go_wp2_with (go_at_call 77; go_must ((with_reducible refine HN.out.mono ?_); rintro e w1 ⟨rfl, hg⟩; have HG := Lib.hid hg; clear hg))
    exact ⟨rfl, ⟨rfl, gb_before H.out.g HG.out (fun g e => .inr (by injection e with e; omega)), Nat.lt_of_lt_of_le o5 HG.out.size, H.out.sp.grown HG.out (by simp only [ne_eq, Option.some.injEq]; omega) (fun g e => by injection e with e; omega)⟩, _, HG.out, gb_refl _ _⟩
/-- Within, around the closure. -/
theorem nwithin {w W : World} {p q P X : Nat} {l part : List UInt8} {k : Nat} {c : UInt8} {v : Value} {a : Int} (h : NX w p q P X l part k 0 (secC c [] v a) W) (n : Nat) (hn : n ≤ 1000000) (hl : part.length ≤ 1000000) :
    Calls Tryd.prog 125 #[.int .i64 n, .func (.func 126) #[] #[.pointer (some ⟨P, 0, none⟩), .pointer (some ⟨X, 0, none⟩)]] W
      (NStep w p q P X l part k (fun t => secC c t v a) (match nameR part 0 with | .ok t j => .ok t j | .err c a => .err c (a + n))) := by
  obtain ⟨o1, o2, o3, o4, o5⟩ := h.o
  have hx := h.below (below_box W (.cells #[.int .i64 0, .int .i64 0] 39))
  have hc := nclos hx
  have b5 := Whole.made W 39 #[.int .i64 0, .int .i64 0]
  have key : ∀ w', (∃ W1, (W.alloc (.cells #[.int .i64 0, .int .i64 0] 39)).grownBy W1 (some q) ∧ W1.grownBy w' (some X)) → Whole w' W.heap.size 39 #[.int .i64 0, .int .i64 0] := fun w' ⟨W1, g1, g2⟩ =>
    (b5.grown g1 (by simp only [ne_eq, Option.some.injEq]; omega)).grown g2 (by simp only [ne_eq, Option.some.injEq]; omega)
  cases hr : nameR part 0 with
  | ok t j =>
    rw [hr] at hc
    refine (within_any _ _ 0 0 n W (fun w1 => NX w p q P X l part k j (secC c t v a) w1 ∧ Whole w1 W.heap.size 39 #[.int .i64 0, .int .i64 0]) (cfN _) (hc.mono ?_) (fun _ h => h.2) (by omega) (by omega) (by omega) (by omega)).mono ?_
    · rintro e w' ⟨⟨rfl, h1⟩, h2⟩
      exact ⟨.inl ⟨rfl, rfl, rfl⟩, h1, key _ h2⟩
    · rintro e w' ⟨he, w1, ⟨h1, _⟩, hg⟩
      rcases he with ⟨_, _, rfl⟩ | ⟨h0, _⟩
      · exact ⟨rfl, h1.on hg o5⟩
      · exact absurd rfl h0
  | err c2 a2 =>
    rw [hr] at hc
    obtain ⟨e1, e2, e3⟩ := nameR_err hr
    refine (within_any _ _ c2 a2 n W (fun w1 => (w.grownBy w1 (some p) ∧ X < w1.heap.size ∧ Sc w1 p l k) ∧ Whole w1 W.heap.size 39 #[.int .i64 0, .int .i64 0]) (cfN _) (hc.mono ?_) (fun _ h => h.2) (by omega) (by omega) (by omega) (by omega)).mono ?_
    · rintro e w' ⟨⟨rfl, h1⟩, h2⟩
      exact ⟨.inr ⟨e1, rfl⟩, h1, key _ h2⟩
    · rintro e w' ⟨he, w1, ⟨⟨h1, h2, h3⟩, _⟩, hg⟩
      rcases he with ⟨h0, _⟩ | ⟨_, he⟩
      · exact absurd h0 e1
      · rw [if_neg e1] at he
        have hz := h1.size
        refine ⟨he, gb_before h1 hg (fun g e => .inr (by injection e with e; omega)), Nat.lt_of_lt_of_le h2 hg.size, h3.grown hg (by simp only [ne_eq, Option.some.injEq]; omega) (fun g e => by injection e with e; omega)⟩

/-- What Next reads. -/
noncomputable def nextR (l : List UInt8) (k : Nat) : Res Sct := (numR l k).bind fun c k1 => (contR l k1).bind fun n k2 =>
  if c.toNat = 0 then (match nameR ((l.drop k2).take n) 0 with
    | .ok t j => .ok ⟨c, t, ((l.drop k2).take n).drop j, (k2 : Int) + j⟩ (k2 + n)
    | .err e a => .err e (a + k2))
  else .ok ⟨c, [], (l.drop k2).take n, k2⟩ (k2 + n)
theorem nextR_err {l : List UInt8} {k : Nat} {c a : Int} (h : nextR l k = .err c a) : c ≠ 0 := by
  unfold nextR at h
  cases h1 : numR l k with
  | err c2 a2 =>
    rw [h1, Res.bind_err] at h
    injection h with e1 e2
    exact e1 ▸ numR_err h1
  | ok c2 k1 =>
    rw [h1, Res.bind_ok] at h
    cases h2 : contR l k1 with
    | err c3 a3 =>
      rw [h2, Res.bind_err] at h
      injection h with e1 e2
      exact e1 ▸ contR_err h2
    | ok n k2 =>
      rw [h2, Res.bind_ok] at h
      by_cases h0 : c2.toNat = 0
      · rw [if_pos h0] at h
        cases h3 : nameR ((l.drop k2).take n) 0 with
        | ok t j => rw [h3] at h; cases h
        | err e a =>
          rw [h3] at h
          injection h with e1 e2
          exact e1 ▸ (nameR_err h3).1
      · rw [if_neg h0] at h; cases h
/-- What Next hands back. -/
def Nexted (p : Nat) (l : List UInt8) (w : World) (r : Res Sct) (e : Ending) (w' : World) : Prop := match r with
  | .ok x k => ∃ v, e = .returned (.agg (secC x.id x.name v x.off)) ∧ Row w' w.heap.size v x.body ∧ Sc w' p l k ∧ w.grownBy w' (some p)
  | .err c a => e = .panicked (stopP c a) ∧ w.grownBy w' (some p)
theorem nexted_end {p k2 j k' : Nat} {l : List UInt8} {w W4 : World} {c : UInt8} {t y : List UInt8} {A : Option Addr} {cc : Nat} {x : Sct} (hx : x = ⟨c, t, y, (k2 : Int) + j⟩) (hr : Row W4 w.heap.size (.slice A y.length cc) y) (hs : Sc W4 p l k') (hg : w.grownBy W4 (some p)) :
    Nexted p l w (.ok x k') (.returned (.agg #[.int .u8 c.toNat, .string (S t), .slice A y.length cc, .int .i64 ((k2 : Int) + j)])) W4 := by
  subst hx
  exact ⟨_, rfl, hr, hs, hg⟩
theorem nextR_ok {l : List UInt8} {k k' : Nat} {x : Sct} (h : nextR l k = .ok x k') : k < k' ∧ k' ≤ l.length := by
  unfold nextR at h
  cases h1 : numR l k with
  | err c2 a2 => rw [h1, Res.bind_err] at h; cases h
  | ok c2 k1 =>
    rw [h1, Res.bind_ok] at h
    have e1 := numR_ok h1
    cases h2 : contR l k1 with
    | err c3 a3 => rw [h2, Res.bind_err] at h; cases h
    | ok n k2 =>
      rw [h2, Res.bind_ok] at h
      have e2 := contR_ok h2
      by_cases h0 : c2.toNat = 0
      · rw [if_pos h0] at h
        cases h3 : nameR ((l.drop k2).take n) 0 with
        | ok t j => rw [h3] at h; injection h with q1 q2; omega
        | err e a => rw [h3] at h; cases h
      · rw [if_neg h0] at h; injection h with q1 q2; omega
set_option maxHeartbeats 1600000 in
theorem next_sect {w : World} {p : Nat} {l : List UInt8} {k : Nat} (h : Sc w p l k) (hT : TbN p w) (hl : l.length ≤ 1000000) :
    Calls Tryd.prog 104 #[.pointer (some ⟨p, 0, none⟩)] w (Nexted p l w (nextR l k)) := by
  have hN := num_sect (h.alloc (.cells secZ 27))
  have hR := Whole.made w 27 secZ
  have hb0 := gb_of_below (some p) (below_box w (.cells secZ 27))
  have hp := h.lt
  unfold nextR
  cases hr : numR l k with
  | err c a =>
    rw [hr] at hN
    rw [Res.bind_err]
    unfold secZ at hN hb0
    have HN := Lib.hid hN
    have HB := Lib.hid hb0
    clear hN hr h hT hR hb0
    go_enter Tryd.func104, Tryd.ntmps104
    go_wp2_with (go_at_call 123; go_must ((with_reducible refine HN.out.mono ?_); rintro e w1 ⟨rfl, hg⟩; have HG := Lib.hid hg; clear hg))
    exact ⟨rfl, rfl, gb_trans HB.out HG.out⟩
  | ok c k1 =>
    rw [hr] at hN
    rw [Res.bind_ok]
    unfold secZ at hN hb0
    have HN := Lib.hid hN
    have HB := Lib.hid hb0
    have HR := Lib.hid hR
    have HT := Lib.hid hT
    have HC := Lib.hid (fun (W : World) (hs : Sc W p l k1) => cont_sect hs)
    clear hN hr h hT hR hb0
    cases hr2 : contR l k1 with
    | err c2 a2 =>
      rw [hr2] at HC
      rw [Res.bind_err]
      clear hr2
      go_enter Tryd.func104, Tryd.ntmps104
      go_wp2_with (first
        | (go_at_call 123; go_must ((with_reducible refine HN.out.mono ?_); rintro e w1 ⟨rfl, hs, hg⟩; have HS := Lib.hid hs; have HG := Lib.hid hg; clear hs hg))
        | (go_at_call 124; go_must ((with_reducible refine (HC.out _ HS.out).mono ?_); rintro e w2 ⟨rfl, hg⟩; have HG2 := Lib.hid hg; clear hg)))
      exact ⟨rfl, rfl, gb_trans (gb_trans HB.out HG.out) HG2.out⟩
    | ok n k2 =>
      rw [hr2] at HC
      rw [Res.bind_ok]
      obtain ⟨hk1, hk2⟩ := contR_ok hr2
      clear hr2
      have hpl : ((l.drop k2).take n).length = n := by rw [List.length_take, List.length_drop]; omega
      obtain ⟨part, hpart⟩ : ∃ part, part = (l.drop k2).take n := ⟨_, rfl⟩
      have HP := Lib.hid hpart
      rw [← hpart] at hpl ⊢
      clear hpart
      by_cases h0 : c.toNat = 0
      · rw [if_pos h0]
        have e0 : ((c.toNat : Int) == 0) = true := by simp; omega
        clear h0
        cases hrn : nameR part 0 with
        | err c2 a2 =>
        go_enter Tryd.func104, Tryd.ntmps104
        go_wp2_with (first
          | (go_at_call 123; go_must ((with_reducible refine HN.out.mono ?_); rintro e w1 ⟨rfl, hs, hg⟩; have HS := Lib.hid hs; have HG := Lib.hid hg; clear hs hg))
          | (go_at_call 124; go_must ((with_reducible refine (HC.out _ HS.out).mono ?_); rintro e w2 ⟨q, rfl, hq, hs1, hs2, hg⟩; rw [← HP.out] at hs1; have hnx0 := NX.start (w := w) c hs2 hs1 ((HR.out.grown HG.out (by simp only [ne_eq, Option.some.injEq]; omega)).grown hg (by simp only [ne_eq, Option.some.injEq]; omega)) (gb_trans (gb_trans HB.out HG.out) hg) HT.out hp (by have := HG.out.size; simp at this; omega); clear hq hs1 hs2 hg)))
        generalize (w2.alloc (.cells #[.pointer (some ⟨q, 0, none⟩)] 54)).alloc (.cells #[.int .u8 c.toNat, .string { data := #[] }, .slice none 0 0, .int .i64 0] 27) = W0 at *
        generalize w2.heap.size = P at *
        have hw := nwithin hnx0 k2 (by omega) (by omega)
        rw [hrn] at hw
        refine hw.mono ?_
        rintro e w3 ⟨rfl, hg, _⟩
        exact ⟨rfl, rfl, hg⟩
        | ok t j =>
        go_enter Tryd.func104, Tryd.ntmps104
        go_wp2_with (first
          | (go_at_call 123; go_must ((with_reducible refine HN.out.mono ?_); rintro e w1 ⟨rfl, hs, hg⟩; have HS := Lib.hid hs; have HG := Lib.hid hg; clear hs hg))
          | (go_at_call 124; go_must ((with_reducible refine (HC.out _ HS.out).mono ?_); rintro e w2 ⟨q, rfl, hq, hs1, hs2, hg⟩; rw [← HP.out] at hs1; have hnx0 := NX.start (w := w) c hs2 hs1 ((HR.out.grown HG.out (by simp only [ne_eq, Option.some.injEq]; omega)).grown hg (by simp only [ne_eq, Option.some.injEq]; omega)) (gb_trans (gb_trans HB.out HG.out) hg) HT.out hp (by have := HG.out.size; simp at this; omega); clear hq hs1 hs2 hg)))
        generalize (w2.alloc (.cells #[.pointer (some ⟨q, 0, none⟩)] 54)).alloc (.cells #[.int .u8 c.toNat, .string { data := #[] }, .slice none 0 0, .int .i64 0] 27) = W0 at *
        generalize w2.heap.size = P at *
        have hw := nwithin hnx0 k2 (by omega) (by omega)
        clear HS HG HN HB HR HC hnx0
        rw [hrn] at hw
        have HRN := Lib.hid hrn
        have hjp : j ≤ part.length := (nameR_ok hrn).1
        have hj : True := trivial
        clear hrn
        refine hw.mono ?_
        rintro e W ⟨rfl, hnx⟩
        clear hw
        have n9 := hnx.c.cell 0
        simp only [List.getElem?_toArray, List.getElem?_cons_zero] at n9
        go_wp2_with fail
        clear n9
        obtain ⟨y, hy⟩ : ∃ y, y = part.drop j := ⟨_, rfl⟩
        have HY := Lib.hid hy
        clear hy
        have hpm : part.length ≤ 1000000 := by omega
        have n0 := hnx.x.cell 3
        have n1 := hnx.x.frozen 3
        have n2 := hnx.c.cell 0
        simp only [secC, List.getElem?_toArray, List.getElem?_cons_zero, List.getElem?_cons_succ] at n0 n2
        have HX := Lib.hid hnx
        have HPL := Lib.hid hpl
        have wj : IntKind.i64.wrap ((k2 : Int) + (j : Int)) = (k2 : Int) + j := by rw [IntKind.wrap_i64]; omega
        clear hnx hpl hj
        refine (at_any HX.out.sq).mono ?_
        rintro e w4 ⟨rfl, rfl⟩
        go_wp2
        have hnx2 := HX.out.put 3 (.int .i64 ((k2 : Int) + j))
        clear HX n0 n1 n2 wj
        refine wp_region_noPanic ?_
        refine wp_region_held_drew (S := fun W => W.cell? ⟨P, 0, none⟩ = some (.pointer (some ⟨q, 0, none⟩))) (by kernel_rfl) hnx2.drew.two.2 (fun hHeld => ?_)
        (refine heldTake (i := 0) (oi := { dst := some 26, op := Op.load 54 (Operand.tmp 4), type := 54, pos := "sect.go:51", after := #[], guard := none }) (v := ?_) rfl (by kernel_rfl) (by kernel_rfl) (by kernel_rfl) (by assumption) ?_ ?_; rotate_left; focus (refine .inl ⟨by kernel_rfl, ?_⟩; intro w hSw; (try dsimp only at hSw); go_simp; (try with_reducible rfl)); (try simp only [Act.put, List.setIfInBounds_toArray, List.set_cons_zero, List.set_cons_succ]))
        (refine heldTake (i := 1) (oi := { dst := some 27, op := Op.load 54 (Operand.tmp 4), type := 54, pos := "sect.go:51", after := #[], guard := none }) (v := ?_) rfl (by kernel_rfl) (by kernel_rfl) (by kernel_rfl) (by assumption) ?_ ?_; rotate_left; focus (refine .inl ⟨by kernel_rfl, ?_⟩; intro w hSw; (try dsimp only at hSw); go_simp; (try with_reducible rfl)); (try simp only [Act.put, List.setIfInBounds_toArray, List.set_cons_zero, List.set_cons_succ]))
        refine wpAnyH_ready (rs := [2]) (by kernel_rfl) (by simp) ?_
        refine (AllReadyH.cons (o := { dst := some 28, op := Op.call { callee := Callee.value (Operand.func 28), args := #[Operand.tmp 27], argTypes := #[54] }, type := 3, pos := "sect.go:51", after := #[{ on := 1, ground := Ground.data }], guard := none }) rfl (fun K hK => ?_) AllReadyH.nil)
        go_simp
        (go_at_call 28; (with_reducible refine (left_nx hnx2.drew.two).mono ?_); rintro e w5 ⟨rfl, hk5, hc5⟩; have HK5 := Lib.hid hk5; clear hk5 hnx2)
        refine hK.out _ _ hc5 (fun hHeld2 => ?_)
        clear hK K hHeld
        (try simp only [Act.put, List.setIfInBounds_toArray, List.set_cons_zero, List.set_cons_succ])
        refine wpAnyH_ready (rs := [3]) (by kernel_rfl) (by simp) ?_
        refine (AllReadyH.cons (o := { dst := some 29, op := Op.call { callee := Callee.value (Operand.func 67), args := #[Operand.tmp 26, Operand.tmp 28], argTypes := #[54, 3] }, type := 25, pos := "sect.go:51", after := #[{ on := 0, ground := Ground.data }, { on := 2, ground := Ground.data }, { on := 2, ground := Ground.chain }], guard := none }) rfl (fun K hK => ?_) AllReadyH.nil)
        go_simp
        (go_at_call 67; (with_reducible refine (bytes_rest HK5.out.sq HY.out hjp hpm).mono ?_); rintro e w6 ⟨A6, c6, rfl, hr6, hs6, hg6⟩; have hz6 := HK5.out.o.2.2.2.2; have HR6 := Lib.hid hr6; have HK6 := Lib.hid (HK5.out.onq hg6 hs6); clear hr6 hg6 hs6 HK5)
        refine hK.out _ _ HK6.out.two.2 (fun hHeld3 => ?_)
        clear hK K hHeld2
        (try simp only [Act.put, List.setIfInBounds_toArray, List.set_cons_zero, List.set_cons_succ])
        (refine heldTake (i := 4) (oi := { dst := some 30, op := Op.fieldAddr 27 (Operand.tmp 6) 2, type := 0, pos := "sect.go:51", after := #[{ on := 0, ground := Ground.phase }, { on := 1, ground := Ground.phase }, { on := 2, ground := Ground.phase }, { on := 3, ground := Ground.phase }], guard := none }) (v := ?_) rfl (by kernel_rfl) (by kernel_rfl) (by kernel_rfl) (by assumption) ?_ ?_; rotate_left; focus (refine .inl ⟨by kernel_rfl, ?_⟩; intro w hSw; (try dsimp only at hSw); go_simp; (try with_reducible rfl)); (try simp only [Act.put, List.setIfInBounds_toArray, List.set_cons_zero, List.set_cons_succ]))
        refine wpAnyH_ready (rs := [5]) (by kernel_rfl) (by simp) ?_
        refine (AllReadyH.cons (o := { dst := none, op := Op.store 25 (Operand.tmp 30) (Operand.tmp 29), type := 0, pos := "sect.go:51", after := #[{ on := 4, ground := Ground.data }, { on := 3, ground := Ground.data }, { on := 3, ground := Ground.chain }, { on := 0, ground := Ground.phase }, { on := 1, ground := Ground.phase }, { on := 2, ground := Ground.phase }, { on := 3, ground := Ground.phase }], guard := none }) rfl (fun K hK => ?_) AllReadyH.nil)
        refine step_put rfl _ _ rfl _ _ _ _ _ rfl rfl (HK6.out.x.cell 2) (HK6.out.x.frozen 2) ?_; have HR7 := Lib.hid (HR6.out.past (gb_put (p := ⟨P + 1, 2, none⟩) (gb_refl w6 (some (P + 1))) (.inl rfl) (.slice A6 y.length c6)) hz6); have HK7 := Lib.hid (HK6.out.put 2 (.slice A6 y.length c6))
        refine hK.out _ _ HK7.out.two.2 (fun hHeld5 => ?_)
        clear hK K hHeld3
        (try simp only [Act.put, List.setIfInBounds_toArray, List.set_cons_zero, List.set_cons_succ])
        refine wpAnyH_done (by kernel_rfl) ?_ _
        refine NoPanic.normal ?_
        have hLast := hHeld5
        clear hHeld5
        have x0 := HK7.out.x.cell 0
        have x1 := HK7.out.x.cell 1
        have x2 := HK7.out.x.cell 2
        have x3 := HK7.out.x.cell 3
        simp [secC] at x0 x1 x2 x3
        have r0 := HK7.out.r.frozen 0
        have r1 := HK7.out.r.frozen 1
        have r2 := HK7.out.r.frozen 2
        have r3 := HK7.out.r.frozen 3
        have s0 := HK7.out.r.cell 0
        have s1 := HK7.out.r.cell 1
        have s2 := HK7.out.r.cell 2
        have s3 := HK7.out.r.cell 3
        simp only [secZ, List.getElem?_toArray, List.getElem?_cons_zero, List.getElem?_cons_succ] at s0 s1 s2 s3
        go_wp2
        obtain ⟨f1, f2, f3, f4⟩ := NX.fin HK7.out HR7.out hz6 (.int .u8 c.toNat) (.string (S t)) (.slice A6 y.length c6) (.int .i64 ((k2 : Int) + j)) rfl
        have q0 := f1.cell 0
        have q1 := f1.cell 1
        have q2 := f1.cell 2
        have q3 := f1.cell 3
        simp only [List.getElem?_toArray, List.getElem?_cons_zero, List.getElem?_cons_succ] at q0 q1 q2 q3
        refine bodyPost_ret (v := .agg #[.int .u8 c.toNat, .string (S t), .slice A6 y.length c6, .int .i64 ((k2 : Int) + j)]) (by simp [results, Tryd.results104, go_sem, q0, q1, q2, q3]) rfl (nexted_end (by rw [HY.out]) f2 f3 f4)
      · rw [if_neg h0]
        have e0 : ((c.toNat : Int) == 0) = false := by simp; omega
        clear h0
        go_enter Tryd.func104, Tryd.ntmps104
        go_wp2_with (first
          | (go_at_call 123; go_must ((with_reducible refine HN.out.mono ?_); rintro e w1 ⟨rfl, hs, hg⟩; have HS := Lib.hid hs; have HG := Lib.hid hg; clear hs hg))
          | (go_at_call 124; go_must ((with_reducible refine (HC.out _ HS.out).mono ?_); rintro e w2 ⟨q, rfl, hq, hs1, hs2, hg⟩; rw [← HP.out] at hs1; have hnx := NX.start (w := w) c hs2 hs1 ((HR.out.grown HG.out (by simp only [ne_eq, Option.some.injEq]; omega)).grown hg (by simp only [ne_eq, Option.some.injEq]; omega)) (gb_trans (gb_trans HB.out HG.out) hg) HT.out hp (by have := HG.out.size; simp at this; omega); clear hq hs1 hs2 hg)))
        generalize (w2.alloc (.cells #[.pointer (some ⟨q, 0, none⟩)] 54)).alloc (.cells #[.int .u8 c.toNat, .string { data := #[] }, .slice none 0 0, .int .i64 0] 27) = W at *
        generalize w2.heap.size = P at *
        obtain ⟨j, hj⟩ : ∃ j, j = 0 := ⟨_, rfl⟩
        obtain ⟨t, ht⟩ : ∃ t : List UInt8, t = [] := ⟨_, rfl⟩
        replace hnx : NX w p q P (P + 1) l part (k2 + n) j (secC c t (.slice none 0 0) 0) W := by rw [hj, ht]; exact hnx
        have HJ := Lib.hid hj
        have HTT := Lib.hid ht
        have hjp : j ≤ part.length := by omega
        have HX9 := Lib.hid (show (⟨c, [], part, (k2 : Int)⟩ : Sct) = ⟨c, t, part.drop j, (k2 : Int) + j⟩ by rw [ht, hj]; simp)
        clear ht HS HG HN HB HR HC
        obtain ⟨y, hy⟩ : ∃ y, y = part.drop j := ⟨_, rfl⟩
        have HY := Lib.hid hy
        clear hy
        have hpm : part.length ≤ 1000000 := by omega
        have n0 := hnx.x.cell 3
        have n1 := hnx.x.frozen 3
        have n2 := hnx.c.cell 0
        simp only [secC, List.getElem?_toArray, List.getElem?_cons_zero, List.getElem?_cons_succ] at n0 n2
        have HX := Lib.hid hnx
        have HPL := Lib.hid hpl
        have wj : IntKind.i64.wrap ((k2 : Int) + (j : Int)) = (k2 : Int) + j := by rw [IntKind.wrap_i64]; omega
        clear hnx hpl hj
        refine (at_any HX.out.sq).mono ?_
        rintro e w4 ⟨rfl, rfl⟩
        go_wp2
        have hnx2 := HX.out.put 3 (.int .i64 ((k2 : Int) + j))
        clear HX n0 n1 n2 wj
        refine wp_region_noPanic ?_
        refine wp_region_held_drew (S := fun W => W.cell? ⟨P, 0, none⟩ = some (.pointer (some ⟨q, 0, none⟩))) (by kernel_rfl) hnx2.drew.two.2 (fun hHeld => ?_)
        (refine heldTake (i := 0) (oi := { dst := some 26, op := Op.load 54 (Operand.tmp 4), type := 54, pos := "sect.go:51", after := #[], guard := none }) (v := ?_) rfl (by kernel_rfl) (by kernel_rfl) (by kernel_rfl) (by assumption) ?_ ?_; rotate_left; focus (refine .inl ⟨by kernel_rfl, ?_⟩; intro w hSw; (try dsimp only at hSw); go_simp; (try with_reducible rfl)); (try simp only [Act.put, List.setIfInBounds_toArray, List.set_cons_zero, List.set_cons_succ]))
        (refine heldTake (i := 1) (oi := { dst := some 27, op := Op.load 54 (Operand.tmp 4), type := 54, pos := "sect.go:51", after := #[], guard := none }) (v := ?_) rfl (by kernel_rfl) (by kernel_rfl) (by kernel_rfl) (by assumption) ?_ ?_; rotate_left; focus (refine .inl ⟨by kernel_rfl, ?_⟩; intro w hSw; (try dsimp only at hSw); go_simp; (try with_reducible rfl)); (try simp only [Act.put, List.setIfInBounds_toArray, List.set_cons_zero, List.set_cons_succ]))
        refine wpAnyH_ready (rs := [2]) (by kernel_rfl) (by simp) ?_
        refine (AllReadyH.cons (o := { dst := some 28, op := Op.call { callee := Callee.value (Operand.func 28), args := #[Operand.tmp 27], argTypes := #[54] }, type := 3, pos := "sect.go:51", after := #[{ on := 1, ground := Ground.data }], guard := none }) rfl (fun K hK => ?_) AllReadyH.nil)
        go_simp
        (go_at_call 28; (with_reducible refine (left_nx hnx2.drew.two).mono ?_); rintro e w5 ⟨rfl, hk5, hc5⟩; have HK5 := Lib.hid hk5; clear hk5 hnx2)
        refine hK.out _ _ hc5 (fun hHeld2 => ?_)
        clear hK K hHeld
        (try simp only [Act.put, List.setIfInBounds_toArray, List.set_cons_zero, List.set_cons_succ])
        refine wpAnyH_ready (rs := [3]) (by kernel_rfl) (by simp) ?_
        refine (AllReadyH.cons (o := { dst := some 29, op := Op.call { callee := Callee.value (Operand.func 67), args := #[Operand.tmp 26, Operand.tmp 28], argTypes := #[54, 3] }, type := 25, pos := "sect.go:51", after := #[{ on := 0, ground := Ground.data }, { on := 2, ground := Ground.data }, { on := 2, ground := Ground.chain }], guard := none }) rfl (fun K hK => ?_) AllReadyH.nil)
        go_simp
        (go_at_call 67; (with_reducible refine (bytes_rest HK5.out.sq HY.out hjp hpm).mono ?_); rintro e w6 ⟨A6, c6, rfl, hr6, hs6, hg6⟩; have hz6 := HK5.out.o.2.2.2.2; have HR6 := Lib.hid hr6; have HK6 := Lib.hid (HK5.out.onq hg6 hs6); clear hr6 hg6 hs6 HK5)
        refine hK.out _ _ HK6.out.two.2 (fun hHeld3 => ?_)
        clear hK K hHeld2
        (try simp only [Act.put, List.setIfInBounds_toArray, List.set_cons_zero, List.set_cons_succ])
        (refine heldTake (i := 4) (oi := { dst := some 30, op := Op.fieldAddr 27 (Operand.tmp 6) 2, type := 0, pos := "sect.go:51", after := #[{ on := 0, ground := Ground.phase }, { on := 1, ground := Ground.phase }, { on := 2, ground := Ground.phase }, { on := 3, ground := Ground.phase }], guard := none }) (v := ?_) rfl (by kernel_rfl) (by kernel_rfl) (by kernel_rfl) (by assumption) ?_ ?_; rotate_left; focus (refine .inl ⟨by kernel_rfl, ?_⟩; intro w hSw; (try dsimp only at hSw); go_simp; (try with_reducible rfl)); (try simp only [Act.put, List.setIfInBounds_toArray, List.set_cons_zero, List.set_cons_succ]))
        refine wpAnyH_ready (rs := [5]) (by kernel_rfl) (by simp) ?_
        refine (AllReadyH.cons (o := { dst := none, op := Op.store 25 (Operand.tmp 30) (Operand.tmp 29), type := 0, pos := "sect.go:51", after := #[{ on := 4, ground := Ground.data }, { on := 3, ground := Ground.data }, { on := 3, ground := Ground.chain }, { on := 0, ground := Ground.phase }, { on := 1, ground := Ground.phase }, { on := 2, ground := Ground.phase }, { on := 3, ground := Ground.phase }], guard := none }) rfl (fun K hK => ?_) AllReadyH.nil)
        refine step_put rfl _ _ rfl _ _ _ _ _ rfl rfl (HK6.out.x.cell 2) (HK6.out.x.frozen 2) ?_; have HR7 := Lib.hid (HR6.out.past (gb_put (p := ⟨P + 1, 2, none⟩) (gb_refl w6 (some (P + 1))) (.inl rfl) (.slice A6 y.length c6)) hz6); have HK7 := Lib.hid (HK6.out.put 2 (.slice A6 y.length c6))
        refine hK.out _ _ HK7.out.two.2 (fun hHeld5 => ?_)
        clear hK K hHeld3
        (try simp only [Act.put, List.setIfInBounds_toArray, List.set_cons_zero, List.set_cons_succ])
        refine wpAnyH_done (by kernel_rfl) ?_ _
        refine NoPanic.normal ?_
        have hLast := hHeld5
        clear hHeld5
        have x0 := HK7.out.x.cell 0
        have x1 := HK7.out.x.cell 1
        have x2 := HK7.out.x.cell 2
        have x3 := HK7.out.x.cell 3
        simp [secC] at x0 x1 x2 x3
        have r0 := HK7.out.r.frozen 0
        have r1 := HK7.out.r.frozen 1
        have r2 := HK7.out.r.frozen 2
        have r3 := HK7.out.r.frozen 3
        have s0 := HK7.out.r.cell 0
        have s1 := HK7.out.r.cell 1
        have s2 := HK7.out.r.cell 2
        have s3 := HK7.out.r.cell 3
        simp only [secZ, List.getElem?_toArray, List.getElem?_cons_zero, List.getElem?_cons_succ] at s0 s1 s2 s3
        go_wp2
        obtain ⟨f1, f2, f3, f4⟩ := NX.fin HK7.out HR7.out hz6 (.int .u8 c.toNat) (.string (S t)) (.slice A6 y.length c6) (.int .i64 ((k2 : Int) + j)) rfl
        have q0 := f1.cell 0
        have q1 := f1.cell 1
        have q2 := f1.cell 2
        have q3 := f1.cell 3
        simp only [List.getElem?_toArray, List.getElem?_cons_zero, List.getElem?_cons_succ] at q0 q1 q2 q3
        refine bodyPost_ret (v := .agg #[.int .u8 c.toNat, .string (S t), .slice A6 y.length c6, .int .i64 ((k2 : Int) + j)]) (by simp [results, Tryd.results104, go_sem, q0, q1, q2, q3]) rfl (nexted_end (by rw [HY.out]; exact HX9.out) f2 f3 f4)
end Go.Proofs.YtanddfkhokcepaaDoor

/- Sections in a row of the call's own; sect.rest of any bytes. -/
namespace Go.Proofs.YtanddfkhokcepaaDoor
open Go.RowKit Go.Lib
set_option linter.unusedVariables false
set_option maxRecDepth 100000

theorem infoSec : (Tryd.prog.info? 27).map (fun i => (i.zero, i.size, i.bytes)) = some (some (.agg #[.int .u8 0, .string { data := #[] }, .slice none 0 0, .int .i64 0]), 4, 56) := by kernel_rfl
abbrev SSlot := Sct × Option Addr × Nat
def rowS (x : SSlot) : List Value := [.int .u8 x.1.id.toNat, .string (S x.1.name), .slice x.2.1 x.1.body.length x.2.2, .int .i64 x.1.off]
def RowS (W : World) (base : Nat) (v : Value) (rows : List SSlot) : Prop := W.ownsRow base 27 4 v rows.length (rows.flatMap rowS)
/-- Each section's bytes lie in a row of their own. -/
def AllB (W : World) (base : Nat) (rows : List SSlot) : Prop := ∀ x ∈ rows, Row W base (.slice x.2.1 x.1.body.length x.2.2) x.1.body
theorem own_whole {W : World} {b : Nat} {e : TypeId} {s n q : Nat} {v : Value} {xs : List Value} {t : TypeId} {cs : Array Value} (h : W.ownsRow b e s v n xs) (hw : Whole W q t cs) (ht : t ≠ e) : some q ≠ v.ownBlock := by
  rcases h.2 with ⟨rfl, _⟩ | ⟨g, cap, cur, rfl, _, hg, _⟩
  · simp [Value.ownBlock]
  · simp only [Value.ownBlock, ne_eq, Option.some.injEq]
    exact hw.apart (show Whole W g e cur from hg) ht
theorem own_own {W : World} {b b' : Nat} {e e' : TypeId} {s s' n n' : Nat} {v v' : Value} {xs xs' : List Value} (h : W.ownsRow b e s v n xs) (h' : W.ownsRow b' e' s' v' n' xs') (ht : e ≠ e') : v.ownBlock = none ∨ v.ownBlock ≠ v'.ownBlock := by
  rcases h.2 with ⟨rfl, _⟩ | ⟨g, cap, cur, rfl, _, hg, _⟩
  · exact .inl rfl
  · exact .inr (own_whole h' (show Whole W g e cur from hg) ht)
theorem RowS.nil (W : World) (base : Nat) : RowS W base (.slice none 0 0) [] := World.ownsRow_nil W base _ 4
theorem RowS.slice {W : World} {base : Nat} {v : Value} {rows : List SSlot} (h : RowS W base v rows) : ∃ A c, v = .slice A rows.length c := by
  rcases h.2 with ⟨rfl, h0⟩ | ⟨g, cap, cur, rfl, _⟩
  · exact ⟨none, 0, by rw [h0]⟩
  · exact ⟨_, cap, rfl⟩
theorem RowS.past {W W' : World} {base b : Nat} {v : Value} {rows : List SSlot} (h : RowS W base v rows) (hg : W.grownBy W' (some b)) (hb : b < base) : RowS W' base v rows :=
  World.ownsRow.kept h hg (by
    cases hv : v.ownBlock with
    | none => exact .inl rfl
    | some k => exact .inr (by have := (World.ownsRow.lt h k hv).1; simp only [ne_eq, Option.some.injEq]; omega))
theorem RowS.alloc {W : World} {base : Nat} {v : Value} {rows : List SSlot} (h : RowS W base v rows) (o : Obj) : RowS (W.alloc o) base v rows := World.ownsRow.alloc h o
theorem RowS.mono {W : World} {base base' : Nat} {v : Value} {rows : List SSlot} (h : RowS W base v rows) (hb : base' ≤ base) : RowS W base' v rows := by
  obtain ⟨h1, h2⟩ := h
  refine ⟨h1, ?_⟩
  rcases h2 with h2 | ⟨g, cap, cur, e, hg, r⟩
  · exact .inl h2
  · exact .inr ⟨g, cap, cur, e, Nat.le_trans hb hg, r⟩
theorem AllB.past {W W' : World} {base b : Nat} {rows : List SSlot} (h : AllB W base rows) (hg : W.grownBy W' (some b)) (hb : b < base) : AllB W' base rows := fun x hx => (h x hx).past hg hb
theorem AllB.alloc {W : World} {base : Nat} {rows : List SSlot} (h : AllB W base rows) (o : Obj) : AllB (W.alloc o) base rows := fun x hx => (h x hx).alloc o
theorem AllB.row {W W' : World} {base : Nat} {v : Value} {rows all : List SSlot} (h : AllB W base rows) (hr : RowS W base v all) (hg : W.grownBy W' v.ownBlock) : AllB W' base rows := fun x hx =>
  World.ownsRow.kept (h x hx) hg (own_own (h x hx) hr (by decide))
/-- append of a new block of one section. -/
theorem rowsS_new {w : World} {ops : Array Oper} {rest : List Oper} {o : Oper} {a : Act} {Q : Exit → Act → World → Prop} (hgd : o.guard = none) (s x : Operand)
    (ho : o.op = .call { callee := .builtin .append, args := #[s, x], argTypes := #[22, 22] })
    (B : Nat) (v : Value) (l : List SSlot) (hs : a.eval s = v) (hr : RowS w B v l) (g : Nat) (r : SSlot) (hx : a.eval x = .slice (some ⟨g, 0, none⟩) 1 1)
    (hg : Whole w g 27 (rowS r).toArray) (hb : l.length ≤ 10000) (hB : B ≤ w.heap.size)
    (h : ∀ v' w', RowS w' B v' (l ++ [r]) → w.grownBy w' v.ownBlock → wpList Tryd.prog ops Q rest (a.put o.dst v') w') : wpList Tryd.prog ops Q (o :: rest) a w := by
  obtain ⟨i0, hi0, hz0, hz1, hz2⟩ := info_parts infoSec
  refine wpList_append_own _ hgd s x _ ho B 27 i0 _ 4 56 Tryd.underlying22 hi0 hz0 hz1 hz2 rfl (by omega) v _ _ hs hr ⟨g, 0, none⟩ 1 1 (rowS r) hx rfl ?_ ?_ (by unfold maxLen; omega) (by omega) hB (fun v' w' h2 h3 _ => h v' w' ?_ h3)
  · intro j u hu
    rw [Go.WideShapes.add_plain, Nat.zero_add, hg.cell]
    simpa using hu
  · intro u hu
    unfold rowS at hu
    simp only [List.mem_cons, List.not_mem_nil, or_false] at hu
    rcases hu with rfl | rfl | rfl | rfl <;> rfl
  · unfold RowS
    rw [List.length_append, List.flatMap_append]
    simpa using h2

/-- All the sections that are left. -/
noncomputable def restR (l : List UInt8) : Nat → Nat → Nat → List Sct → Res (List Sct)
  | 0, k, _, _ => .err 1 k
  | f + 1, k, last, acc => if k = l.length then .ok acc k else (nextR l k).bind fun x k' =>
      if x.id.toNat ≠ 0 ∧ ¬ last < x.id.toNat then .err 6 k else
      if acc.length < 10000 then restR l f k' (if x.id.toNat ≠ 0 then x.id.toNat else last) (acc ++ [x]) else .err 29 k
theorem restR_err {l : List UInt8} : ∀ {f k last : Nat} {acc : List Sct} {c a : Int}, restR l f k last acc = .err c a → c ≠ 0
  | 0, k, last, acc, c, a, h => by unfold restR at h; injection h with e1 e2; omega
  | f + 1, k, last, acc, c, a, h => by
    unfold restR at h
    by_cases h0 : k = l.length
    · rw [if_pos h0] at h; cases h
    · rw [if_neg h0] at h
      cases hn : nextR l k with
      | err c2 a2 =>
        rw [hn, Res.bind_err] at h
        injection h with e1 e2
        exact e1 ▸ nextR_err hn
      | ok x k' =>
        rw [hn, Res.bind_ok] at h
        split at h
        · injection h with e1 e2; omega
        · split at h
          · exact restR_err h
          · injection h with e1 e2; omega
/-- What rest hands back. -/
def Rested (p : Nat) (l : List UInt8) (w : World) (r : Res (List Sct)) (e : Ending) (w' : World) : Prop := match r with
  | .ok xs k => ∃ v rows, e = .returned v ∧ rows.map (·.1) = xs ∧ RowS w' w.heap.size v rows ∧ AllB w' w.heap.size rows ∧ Sc w' p l k ∧ w.grownBy w' (some p)
  | .err c a => e = .panicked (stopP c a) ∧ w.grownBy w' (some p)
/-- What holds at the head of the loop. -/
structure RestIn (w : World) (p : Nat) (l : List UInt8) (rows : List SSlot) (k : Nat) (v : Value) (W : World) : Prop where
  sc : Sc W p l k
  g : w.grownBy W (some p)
  r : RowS W w.heap.size v rows
  b : AllB W w.heap.size rows
  tb : TbN p W
theorem RestIn.step {w W W' : World} {p : Nat} {l : List UInt8} {rows : List SSlot} {k k' : Nat} {v : Value} (h : RestIn w p l rows k v W) (hp : p < w.heap.size) (hg : W.grownBy W' (some p)) (hs : Sc W' p l k') : RestIn w p l rows k' v W' :=
  ⟨hs, gb_trans h.g hg, h.r.past hg hp, h.b.past hg hp, h.tb.keep hg (Nat.le_refl _)⟩
theorem RestIn.alloc {w W : World} {p : Nat} {l : List UInt8} {rows : List SSlot} {k : Nat} {v : Value} (h : RestIn w p l rows k v W) (hp : p < w.heap.size) (o : Obj) : RestIn w p l rows k v (W.alloc o) := h.step hp (gb_alloc (gb_refl _ _) o) (h.sc.alloc o)
theorem RestIn.drewN {w W : World} {p : Nat} {l : List UInt8} {rows : List SSlot} {k : Nat} {v : Value} (h : RestIn w p l rows k v W) (hp : p < w.heap.size) (m : Nat) : RestIn w p l rows k v (W.drewN m) := h.step hp (gb_drewN (gb_refl _ _) m) (h.sc.drewN m)
theorem RestIn.more {w W W' : World} {p : Nat} {l : List UInt8} {rows : List SSlot} {r : SSlot} {k : Nat} {v v' : Value} (h : RestIn w p l rows k v W) (hp : p < w.heap.size) (hg : W.grownBy W' v.ownBlock) (hr : RowS W' w.heap.size v' (rows ++ [r]))
    (hb : Row W w.heap.size (.slice r.2.1 r.1.body.length r.2.2) r.1.body) : RestIn w p l (rows ++ [r]) k v' W' := by
  have hlt := World.ownsRow.lt h.r
  refine ⟨h.sc.grown hg (fun e => by have := hlt p e.symm; omega) (fun g e => by have := hlt g e; omega), gb_before h.g hg (fun g e => .inr (hlt g e).1), hr, fun x hx => ?_, ?_⟩
  · rcases List.mem_append.1 hx with hx | hx
    · exact h.b.row h.r hg x hx
    · obtain rfl := List.mem_singleton.1 hx
      exact World.ownsRow.kept hb hg (own_own hb h.r (by decide))
  · obtain ⟨⟨h1, h2⟩, h3, h4, h5⟩ := h.tb
    have key : ∀ b o, b < p → W'.cell? ⟨b, o, none⟩ = W.cell? ⟨b, o, none⟩ := fun b o hb => by
      unfold World.cell?
      rw [hg.block b (by omega) (fun e => by have := hlt b e.symm; omega)]
    exact ⟨⟨fun c hc => (key _ _ h3).trans (h1 c hc), fun i hi => ⟨(key _ _ h4).trans (h2 i hi).1, (key _ _ h4).trans (h2 i hi).2⟩⟩, h3, h4, Nat.le_trans h5 hg.size⟩
end Go.Proofs.YtanddfkhokcepaaDoor

/- The walk of sect.rest. -/
namespace Go.Proofs.YtanddfkhokcepaaDoor
open Go.RowKit Go.Lib
set_option linter.unusedVariables false
set_option maxRecDepth 100000

theorem nextR_le {l : List UInt8} {k k' : Nat} {x : Sct} (h : nextR l k = .ok x k') : l.length - k' < l.length - k := by have := nextR_ok h; omega
/-- One step of the list that is being read. -/
theorem restR_end {l : List UInt8} {f last : Nat} {acc : List Sct} : restR l (f + 1) l.length last acc = .ok acc l.length := by unfold restR; rw [if_pos rfl]
theorem restR_bad {l : List UInt8} {f k last : Nat} {acc : List Sct} {c a : Int} (h0 : k ≠ l.length) (h : nextR l k = .err c a) : restR l (f + 1) k last acc = .err c a := by
  unfold restR; rw [if_neg h0, h, Res.bind_err]
theorem restR_low {l : List UInt8} {f k last k' : Nat} {acc : List Sct} {x : Sct} (h0 : k ≠ l.length) (h : nextR l k = .ok x k') (h1 : x.id.toNat ≠ 0) (h2 : ¬ last < x.id.toNat) : restR l (f + 1) k last acc = .err 6 k := by
  unfold restR; rw [if_neg h0, h, Res.bind_ok, if_pos ⟨h1, h2⟩]
theorem restR_many {l : List UInt8} {f k last k' : Nat} {acc : List Sct} {x : Sct} (h0 : k ≠ l.length) (h : nextR l k = .ok x k') (h1 : ¬ (x.id.toNat ≠ 0 ∧ ¬ last < x.id.toNat)) (h2 : ¬ acc.length < 10000) : restR l (f + 1) k last acc = .err 29 k := by
  unfold restR; rw [if_neg h0, h, Res.bind_ok, if_neg h1, if_neg h2]
theorem restR_next {l : List UInt8} {f k last k' : Nat} {acc : List Sct} {x : Sct} (h0 : k ≠ l.length) (h : nextR l k = .ok x k') (h1 : ¬ (x.id.toNat ≠ 0 ∧ ¬ last < x.id.toNat)) (h2 : acc.length < 10000) : restR l (f + 1) k last acc = restR l f k' (if x.id.toNat ≠ 0 then x.id.toNat else last) (acc ++ [x]) := by
  conv => lhs; unfold restR
  rw [if_neg h0, h, Res.bind_ok, if_neg h1, if_pos h2]
theorem rested_bad {p : Nat} {l : List UInt8} {w w' : World} {r : Res (List Sct)} {c a : Int} (h : r = .err c a) (hg : w.grownBy w' (some p)) : Rested p l w r (.panicked (stopP c a)) w' := by
  subst h; exact ⟨rfl, hg⟩
theorem rested_ok {p : Nat} {l : List UInt8} {w w' : World} {r : Res (List Sct)} {k : Nat} {v : Value} {rows : List SSlot} (h : r = .ok (rows.map (·.1)) k) (hi : RestIn w p l rows k v w') : Rested p l w r (.returned v) w' := by
  subst h; exact ⟨v, rows, rfl, rfl, hi.r, hi.b, hi.sc, hi.g⟩

theorem made_2 (w : World) (o : Obj) (t : TypeId) (cs : Array Value) : Whole ((w.alloc o).alloc (.cells cs t)) (w.heap.size + 1) t cs := by
  have h := Whole.made (w.alloc o) t cs
  rwa [size_box] at h
/-- Next, of a section that is there. -/
theorem next_ok {w : World} {p : Nat} {l : List UInt8} {k k' : Nat} {x : Sct} (h : Sc w p l k) (hT : TbN p w) (hl : l.length ≤ 1000000) (hn : nextR l k = .ok x k') :
    Calls Tryd.prog 104 #[.pointer (some ⟨p, 0, none⟩)] w fun e w' => ∃ A c, e = .returned (.agg #[.int .u8 x.id.toNat, .string (S x.name), .slice A x.body.length c, .int .i64 x.off]) ∧ Row w' w.heap.size (.slice A x.body.length c) x.body ∧ Sc w' p l k' ∧ w.grownBy w' (some p) := by
  have h1 := next_sect h hT hl
  rw [hn] at h1
  refine h1.mono fun e w' ⟨v, e1, h2, h3, h4⟩ => ?_
  obtain ⟨A, c, rfl⟩ := h2.slice
  exact ⟨A, c, e1, h2, h3, h4⟩

set_option maxHeartbeats 1600000 in
theorem rest_sect {w : World} {p : Nat} {l : List UInt8} {k0 : Nat} (h : Sc w p l k0) (hT : TbN p w) (hl : l.length ≤ 1000000) :
    Calls Tryd.prog 68 #[.pointer (some ⟨p, 0, none⟩)] w (Rested p l w (restR l (l.length + 1) k0 0 [])) := by
  have hp := h.lt
  have hk0 := h.le.1
  have HI := Lib.hid (show RestIn w p l [] k0 (.slice none 0 0) w from ⟨h, gb_refl _ _, RowS.nil _ _, (fun x hx => by cases hx), hT⟩)
  obtain ⟨ans, hans⟩ : ∃ ans, ans = restR l (l.length + 1) k0 0 [] := ⟨_, rfl⟩
  rw [← hans]
  have HA := Lib.hid hans
  clear h hT hans
  go_enter Tryd.func68, Tryd.ntmps68
  go_wp2
  go_loopg [3, 4] (l.length + 1) (fun gk v u wr => ∃ (rows : List SSlot) (k last : Nat), u = .int .u8 last ∧ RestIn w p l rows k v wr ∧ ans = restR l gk k last (rows.map (·.1)) ∧ l.length - k < gk ∧ rows.length ≤ 10000 ∧ last < 256)
  case atStart => exact ⟨[], k0, 0, rfl, HI.out, HA.out, by omega, by simp, by omega⟩
  case round =>
    obtain ⟨rows, k, last, rfl, hi, ha, hg, hr, hlast⟩ := hrel
    obtain ⟨g, rfl⟩ : ∃ g, gk = g + 1 := ⟨gk - 1, by omega⟩
    have HR := Lib.hid hi
    have hkl := hi.sc.le.1
    have HDn := Lib.hid (done_any hi.sc)
    by_cases h0 : k = l.length
    · subst h0
      rw [Int.sub_self, beq_self_eq_true] at HDn
      rw [restR_end] at ha
      have HAN := Lib.hid ha
      clear hi ha HI HA
      go_wp2_with (go_at_call 102; go_must ((with_reducible refine HDn.out.mono ?_); rintro e w1 ⟨rfl, m, rfl⟩))
      go_ret
      exact rested_ok HAN.out (HR.out.drewN hp m)
    · have d0 : ((l.length : Int) - k == 0) = false := by simp; omega
      rw [d0] at HDn
      have HNx := Lib.hid (fun m => next_sect (hi.sc.drewN m) (HR.out.drewN hp m).tb hl)
      have HAt := Lib.hid (fun m => at_any (hi.sc.drewN m))
      cases hn : nextR l k with
      | err c a =>
        rw [restR_bad h0 hn] at ha
        rw [hn] at HNx
        have HAN := Lib.hid ha
        clear hi ha HI HA hn d0
        go_wp2_with (first
          | (go_at_call 102; go_must ((with_reducible refine HDn.out.mono ?_); rintro e w1 ⟨rfl, m, rfl⟩))
          | (go_at_call 103; go_must ((with_reducible refine (HAt.out m).mono ?_); rintro e w1 ⟨rfl, rfl⟩))
          | (go_at_call 104; go_must ((with_reducible refine (HNx.out m).mono ?_); rintro e w1 ⟨rfl, hg⟩; have HG := Lib.hid hg; clear hg)))
        exact ⟨rfl, rested_bad HAN.out (gb_trans (gb_drewN HR.out.g m) HG.out)⟩
      | ok x k' =>
        have hk' := nextR_ok hn
        have HN2 := Lib.hid (fun m => next_ok (hi.sc.drewN m) (HR.out.drewN hp m).tb hl hn)
        obtain ⟨Av, cv, rfl⟩ := hi.r.slice
        have hx := x.id.toNat_lt
        clear d0 HNx
        by_cases hlow : x.id.toNat ≠ 0 ∧ ¬ last < x.id.toNat
        · rw [restR_low h0 hn hlow.1 hlow.2] at ha
          have HAN := Lib.hid ha
          have d1 : ((x.id.toNat : Int) != 0) = true := by simp; omega
          have d2 : decide ((last : Int) < (x.id.toNat : Int)) = false := by simp; omega
          have d3 : decide (last < x.id.toNat) = false := by simp; omega
          have d4 : ¬ last < x.id.toNat := hlow.2
          clear hi ha HI HA hn hlow
          go_wp2_with (first
            | (go_at_call 102; go_must ((with_reducible refine HDn.out.mono ?_); rintro e w1 ⟨rfl, m, rfl⟩))
            | (go_at_call 103; go_must ((with_reducible refine (HAt.out m).mono ?_); rintro e w1 ⟨rfl, rfl⟩))
            | (go_at_call 104; go_must ((with_reducible refine (HN2.out m).mono ?_); rintro e w1 ⟨A1, c1, rfl, hr1, hs1, hg1⟩; have HS1 := Lib.hid ((HR.out.drewN hp m).step hp hg1 hs1); have HB1 := Lib.hid (hr1.mono HR.out.g.size); have hz1 : w.heap.size ≤ w1.heap.size := HS1.out.g.size; clear hr1 hs1 hg1))
            | (go_at_call 66; go_must ((with_reducible refine (unlessF _ _ _).mono ?_); rintro e w' ⟨rfl, rfl⟩)))
          exact ⟨rfl, rested_bad HAN.out (((HS1.out.alloc hp _).drewN hp 0).g)⟩
        · by_cases hmany : rows.length < 10000
          · have hm2 : (rows.map (·.1)).length < 10000 := by rw [List.length_map]; exact hmany
            rw [restR_next h0 hn hlow hm2] at ha
            have d5 : (rows.length : Int) < 10000 := by omega
            have d6 : decide ((rows.length : Int) < 10000) = true := by simpa using d5
            clear hm2
            by_cases hid : x.id.toNat = 0
            · rw [if_neg (by omega)] at ha
              have HAN := Lib.hid ha
              have d1 : ((x.id.toNat : Int) != 0) = false := by simp; omega
              clear hi ha HI HA hn hlow hid
              go_wp2_with (first
            | (go_at_call 102; go_must ((with_reducible refine HDn.out.mono ?_); rintro e w1 ⟨rfl, m, rfl⟩))
            | (go_at_call 103; go_must ((with_reducible refine (HAt.out m).mono ?_); rintro e w1 ⟨rfl, rfl⟩))
            | (go_at_call 104; go_must ((with_reducible refine (HN2.out m).mono ?_); rintro e w1 ⟨A1, c1, rfl, hr1, hs1, hg1⟩; have HS1 := Lib.hid ((HR.out.drewN hp m).step hp hg1 hs1); have HB1 := Lib.hid (hr1.mono HR.out.g.size); have hz1 : w.heap.size ≤ w1.heap.size := HS1.out.g.size; clear hr1 hs1 hg1))
            | (at_builtin; (refine rowsS_new rfl _ _ rfl w.heap.size _ rows rfl ((HS1.out.alloc hp _).alloc hp _).r (w1.heap.size + 1) (x, A1, c1) rfl (made_2 w1 _ _ _) hr (by rw [size_box, size_box]; omega) ?_; intro v2 w2 hr2 hg2; have HI2 := Lib.hid (((HS1.out.alloc hp _).alloc hp _).more hp hg2 hr2 ((HB1.out.alloc _).alloc _)); clear hr2 hg2))
            | (go_at_call 66; go_must ((with_reducible refine (unlessT _ _ _).mono ?_); rintro e w' ⟨rfl, rfl⟩)))
              go_roundg g
              case measure => omega
              case rel => exact ⟨_, k', last, rfl, HI2.out, by rw [List.map_append]; exact HAN.out, by omega, by rw [List.length_append, List.length_singleton]; omega, hlast⟩
            · have hgt : last < x.id.toNat := by omega
              rw [if_pos (by omega)] at ha
              have HAN := Lib.hid ha
              have d1 : ((x.id.toNat : Int) != 0) = true := by simp; omega
              have d2 : decide ((last : Int) < (x.id.toNat : Int)) = true := by simp; omega
              have d3 : decide (last < x.id.toNat) = true := by simp; omega
              clear hi ha HI HA hn hlow hid
              go_wp2_with (first
            | (go_at_call 102; go_must ((with_reducible refine HDn.out.mono ?_); rintro e w1 ⟨rfl, m, rfl⟩))
            | (go_at_call 103; go_must ((with_reducible refine (HAt.out m).mono ?_); rintro e w1 ⟨rfl, rfl⟩))
            | (go_at_call 104; go_must ((with_reducible refine (HN2.out m).mono ?_); rintro e w1 ⟨A1, c1, rfl, hr1, hs1, hg1⟩; have HS1 := Lib.hid ((HR.out.drewN hp m).step hp hg1 hs1); have HB1 := Lib.hid (hr1.mono HR.out.g.size); have hz1 : w.heap.size ≤ w1.heap.size := HS1.out.g.size; clear hr1 hs1 hg1))
            | (at_builtin; (refine rowsS_new rfl _ _ rfl w.heap.size _ rows rfl ((HS1.out.alloc hp _).alloc hp _).r (w1.heap.size + 1) (x, A1, c1) rfl (made_2 w1 _ _ _) hr (by rw [size_box, size_box]; omega) ?_; intro v2 w2 hr2 hg2; have HI2 := Lib.hid (((HS1.out.alloc hp _).alloc hp _).more hp hg2 hr2 ((HB1.out.alloc _).alloc _)); clear hr2 hg2))
            | (go_at_call 66; go_must ((with_reducible refine (unlessT _ _ _).mono ?_); rintro e w' ⟨rfl, rfl⟩)))
              go_roundg g
              case measure => omega
              case rel => exact ⟨_, k', x.id.toNat, rfl, HI2.out, by rw [List.map_append]; exact HAN.out, by omega, by rw [List.length_append, List.length_singleton]; omega, hx⟩
          · have hm2 : ¬ (rows.map (·.1)).length < 10000 := by rw [List.length_map]; exact hmany
            rw [restR_many h0 hn hlow hm2] at ha
            have d5 : ¬ (rows.length : Int) < 10000 := by omega
            have d6 : decide ((rows.length : Int) < 10000) = false := by simpa using d5
            have HAN := Lib.hid ha
            clear hm2 ha
            by_cases hid : x.id.toNat = 0
            · have d1 : ((x.id.toNat : Int) != 0) = false := by simp; omega
              clear hi HI HA hn hlow hid
              go_wp2_with (first
            | (go_at_call 102; go_must ((with_reducible refine HDn.out.mono ?_); rintro e w1 ⟨rfl, m, rfl⟩))
            | (go_at_call 103; go_must ((with_reducible refine (HAt.out m).mono ?_); rintro e w1 ⟨rfl, rfl⟩))
            | (go_at_call 104; go_must ((with_reducible refine (HN2.out m).mono ?_); rintro e w1 ⟨A1, c1, rfl, hr1, hs1, hg1⟩; have HS1 := Lib.hid ((HR.out.drewN hp m).step hp hg1 hs1); have HB1 := Lib.hid (hr1.mono HR.out.g.size); have hz1 : w.heap.size ≤ w1.heap.size := HS1.out.g.size; clear hr1 hs1 hg1))
            | (go_at_call 66; go_must ((with_reducible refine (unlessF _ _ _).mono ?_); rintro e w' ⟨rfl, rfl⟩)))
              exact ⟨rfl, rested_bad HAN.out (((HS1.out.alloc hp _).drewN hp 0).g)⟩
            · have hgt : last < x.id.toNat := by omega
              have d1 : ((x.id.toNat : Int) != 0) = true := by simp; omega
              have d2 : decide ((last : Int) < (x.id.toNat : Int)) = true := by simp; omega
              have d3 : decide (last < x.id.toNat) = true := by simp; omega
              clear hi HI HA hn hlow hid
              go_wp2_with (first
            | (go_at_call 102; go_must ((with_reducible refine HDn.out.mono ?_); rintro e w1 ⟨rfl, m, rfl⟩))
            | (go_at_call 103; go_must ((with_reducible refine (HAt.out m).mono ?_); rintro e w1 ⟨rfl, rfl⟩))
            | (go_at_call 104; go_must ((with_reducible refine (HN2.out m).mono ?_); rintro e w1 ⟨A1, c1, rfl, hr1, hs1, hg1⟩; have HS1 := Lib.hid ((HR.out.drewN hp m).step hp hg1 hs1); have HB1 := Lib.hid (hr1.mono HR.out.g.size); have hz1 : w.heap.size ≤ w1.heap.size := HS1.out.g.size; clear hr1 hs1 hg1))
            | (go_at_call 66; go_must (first | ((with_reducible refine (unlessT 6 _ _).mono ?_); rintro e w' ⟨rfl, rfl⟩) | ((with_reducible refine (unlessF 29 _ _).mono ?_); rintro e w' ⟨rfl, rfl⟩))))
              exact ⟨rfl, rested_bad HAN.out (((HS1.out.alloc hp _).drewN hp 0).g)⟩
end Go.Proofs.YtanddfkhokcepaaDoor
