/- sect.Split of bytes that begin with Head; awake. -/
import Derived.Test.YtohliaellefhaaaDoorQs10
import Derived.Lib.SlBytesConst
import Derived.Test.YtohliaellefhaaaDoorQs03
import Derived.Test.YtohliaellefhaaaDoorQs02
import Derived.WalkSpells
import Derived.Laws.MakeOwn
namespace Go.Proofs.YtohliaellefhaaaDoor
open Go.RowKit Go.Lib
set_option linter.unusedVariables false
set_option maxRecDepth 100000

/-- What a module begins with. -/
def headL : List UInt8 := [0, 97, 115, 109, 1, 0, 0, 0]
theorem TbN.of {w w' : World} {q : Nat} (h : Tabs w) (hb : Below w.heap.size w w') (hq : w.heap.size ≤ q) (hz : q ≤ w'.heap.size) : TbN q w' := by
  have h1 := block_lt_of_cell (h.1 0 (by omega))
  have h2 := block_lt_of_cell (h.2 0 (by omega)).1
  exact ⟨h.below hb, Nat.lt_of_lt_of_le h1 hq, Nat.lt_of_lt_of_le h2 hq, hz⟩
/-- What Split reads of bytes that begin with Head. -/
noncomputable def splitR (l : List UInt8) : Res (List Sct) := restR l (l.length + 1) 8 0 []
/-- What Split's closure ends with. -/
def Splits (l : List UInt8) (w : World) (e : Ending) (w' : World) : Prop := (match splitR l with
  | .ok xs k => ∃ A c rows, e = .returned (.slice A rows.length c) ∧ rows.map (·.1) = xs ∧ RowS w' w.heap.size (.slice A rows.length c) rows ∧ AllB w' w.heap.size rows
  | .err c a => e = .panicked (stopP c a)) ∧ Below w.heap.size w w'
theorem below_new {w w1 w2 : World} {q : Nat} (h : Below w.heap.size w w1) (hg : w1.grownBy w2 (some q)) (hq : w.heap.size ≤ q) : Below w.heap.size w w2 :=
  Below.grown h hg h.size (fun g e => by injection e with e; omega)
theorem splits_of {w w1 w2 : World} {l : List UInt8} {q : Nat} {e : Ending} (hb : Below w.heap.size w w1) (hz : w.heap.size ≤ q) (h : Rested q l w1 (splitR l) e w2) : Splits l w e w2 := by
  unfold Splits
  cases hr : splitR l with
  | ok xs k =>
    rw [hr] at h
    obtain ⟨v, rows, rfl, hm, h1, h2, h3, h4⟩ := h
    obtain ⟨A, c, rfl⟩ := h1.slice
    exact ⟨⟨A, c, rows, rfl, hm, h1.mono hb.size, fun x hx => (h2 x hx).mono hb.size⟩, below_new hb h4 hz⟩
  | err c a =>
    rw [hr] at h
    exact ⟨h.1, below_new hb h.2 hz⟩
theorem cfSp (cap : Array Value) (w : World) : (callFunc 28 cap).run Tryd.prog w = .ok (.enter 28 cap) w := by kernel_rfl
set_option maxHeartbeats 1000000 in
theorem splitC {w : World} {B0 cap : Nat} {A : Option Addr} {l : List UInt8} (hB : Whole w B0 36 #[.slice A l.length cap]) (hl : Lies w w.heap.size A (cells (nums l))) (h8 : 8 ≤ l.length) (hh : l.take 8 = headL) (hm : l.length ≤ 1000000) (hT : Tabs w) :
    Calls Tryd.prog 28 #[.pointer (some ⟨B0, 0, none⟩)] w (Splits l w) := by
  have c0 := hB.cell 0
  simp only [List.getElem?_toArray, List.getElem?_cons_zero] at c0
  have HO := Lib.hid (over_all (cap := cap) hl hm)
  have HT := Lib.hid hT
  have HH := Lib.hid (show (l.drop 0).take 8 = headL from hh)
  have HBy := Lib.hid (fun (W : World) (q : Nat) (hs : Sc W q l 0) => show Calls Tryd.prog 31 #[.pointer (some ⟨q, 0, none⟩), .int .i64 8] W (Byted q l 0 8 W) from bytes_ok hs 8 (by omega) hm)
  have d1 : (l.length : Int) ≤ 4194304 := by omega
  have d2 : (8 : Int) ≤ l.length := by omega
  clear hB hl hh hT
  have e5 : ((S headL).toList == [0, 97, 115, 109, 1, 0, 0, 0]) = true := by rw [S_toList]; rfl
  cases hsp : splitR l with
  | ok xs k =>
    have HSP := Lib.hid hsp
    clear hsp
    go_enter Tryd.func28, Tryd.ntmps28
    go_wp2_with (first
      | (go_at_call 29; go_must ((with_reducible refine (unlessT _ _ _).mono ?_); rintro e w' ⟨rfl, rfl⟩))
      | (go_at_call 30; go_must ((with_reducible refine HO.out.mono ?_); rintro e w1 ⟨q, rfl, hq, hs, hb⟩; have HQ := Lib.hid hq; have HB := Lib.hid hb; have HS := Lib.hid hs; have HTB := Lib.hid (TbN.of HT.out hb hq (Nat.le_of_lt hs.lt)); clear hq hb hs))
      | (go_at_call 31; go_must ((with_reducible refine (HBy.out _ _ HS.out).mono ?_); rintro e w2 ⟨v, rfl, hr, hs, hg⟩; rw [HH.out] at hr; obtain ⟨A2, c2, hv, hst⟩ := str_own hr; subst hv; have HS2 := Lib.hid hs; have HG2 := Lib.hid hg; have HR2 := Lib.hid (rest_sect hs (HTB.out.keep hg (Nat.le_refl _)) hm); have HB2 := Lib.hid (below_new HB.out hg HQ.out); clear hr hs hg))
      | (go_at_call 32; go_must ((with_reducible refine HR2.out.mono ?_); intro e w3 h3; have h4 := splits_of HB2.out HQ.out h3; unfold Splits at h4; rw [HSP.out] at h4; obtain ⟨⟨A3, c3, rows, rfl, h5⟩, hb3⟩ := h4; have H5 := Lib.hid h5; have HB3 := Lib.hid hb3; clear h3 h5 hb3)))
    go_ret
    unfold Splits
    rw [HSP.out]
    exact ⟨⟨A3, c3, rows, rfl, H5.out⟩, HB3.out⟩
  | err c a =>
    have HSP := Lib.hid hsp
    clear hsp
    go_enter Tryd.func28, Tryd.ntmps28
    go_wp2_with (first
      | (go_at_call 29; go_must ((with_reducible refine (unlessT _ _ _).mono ?_); rintro e w' ⟨rfl, rfl⟩))
      | (go_at_call 30; go_must ((with_reducible refine HO.out.mono ?_); rintro e w1 ⟨q, rfl, hq, hs, hb⟩; have HQ := Lib.hid hq; have HB := Lib.hid hb; have HS := Lib.hid hs; have HTB := Lib.hid (TbN.of HT.out hb hq (Nat.le_of_lt hs.lt)); clear hq hb hs))
      | (go_at_call 31; go_must ((with_reducible refine (HBy.out _ _ HS.out).mono ?_); rintro e w2 ⟨v, rfl, hr, hs, hg⟩; rw [HH.out] at hr; obtain ⟨A2, c2, hv, hst⟩ := str_own hr; subst hv; have HS2 := Lib.hid hs; have HG2 := Lib.hid hg; have HR2 := Lib.hid (rest_sect hs (HTB.out.keep hg (Nat.le_refl _)) hm); have HB2 := Lib.hid (below_new HB.out hg HQ.out); clear hr hs hg))
      | (go_at_call 32; go_must ((with_reducible refine HR2.out.mono ?_); intro e w3 h3; have h4 := splits_of HB2.out HQ.out h3; unfold Splits at h4; rw [HSP.out] at h4; obtain ⟨rfl, hb3⟩ := h4; have HB3 := Lib.hid hb3; clear h3 hb3)))
    refine ⟨rfl, ?_⟩
    unfold Splits
    rw [HSP.out]
    exact ⟨rfl, HB3.out⟩
/-- What Split hands back. -/
def SplitP (l : List UInt8) (w : World) (e : Ending) (w' : World) : Prop := (match splitR l with
  | .ok xs k => ∃ A c rows, e = .returned (.tuple #[.slice A rows.length c, .agg #[.int .i64 0, .int .i64 0]]) ∧ rows.map (·.1) = xs ∧ RowS w' w.heap.size (.slice A rows.length c) rows ∧ AllB w' w.heap.size rows
  | .err c a => c ≠ 0 ∧ e = .returned (.tuple #[.slice none 0 0, .agg #[.int .i64 c, .int .i64 a]])) ∧ Below w.heap.size w w'
/-- The list that Value's closure hands back. -/
def SplitT (xs : List Sct) (base : Nat) (x : Option Addr × Nat × Nat) (W : World) : Prop := ∃ rows, x.2.1 = rows.length ∧ rows.map (·.1) = xs ∧ RowS W base (.slice x.1 x.2.1 x.2.2) rows ∧ AllB W base rows
set_option maxHeartbeats 1000000 in
theorem split_any {w : World} {cap : Nat} {A : Option Addr} {l : List UInt8} (hl : Lies w w.heap.size A (cells (nums l))) (h8 : 8 ≤ l.length) (hh : l.take 8 = headL) (hm : l.length ≤ 1000000) (hT : Tabs w) :
    Calls Tryd.prog 17 #[.slice A l.length cap] w (SplitP l w) := by
  obtain ⟨W1, hW1⟩ : ∃ W1, W1 = (w.alloc (.cells #[.slice A l.length cap] 36)).alloc (.cells #[.int .i64 0, .int .i64 0] 49) := ⟨_, rfl⟩
  have hz : W1.heap.size = w.heap.size + 2 := by rw [hW1, size_box, size_box]
  have hB : Whole W1 w.heap.size 36 #[.slice A l.length cap] := by rw [hW1]; exact (Whole.made _ _ _).alloc _
  have hS : Whole W1 (w.heap.size + 1) 49 #[.int .i64 0, .int .i64 0] := by rw [hW1]; exact made_2 _ _ _ _
  have hb : Below w.heap.size w W1 := by rw [hW1]; exact ((Below.refl _ _).alloc (Nat.le_refl _) _).alloc (by simp) _
  have hcl : ∀ W, Below W1.heap.size W1 W → Calls Tryd.prog 28 #[.pointer (some ⟨w.heap.size, 0, none⟩)] W (Splits l W) := fun W hbW => by
    have hbw : Below w.heap.size w W := hb.trans (hbW.mono hb.size)
    exact splitC (hB.below hbW) ((hl.below hbw (Nat.le_refl _)).more hbw.size) h8 hh hm (hT.below hbw)
  have hmf : ∀ (fn : Fn) (first cap : Array Value) (w : World), (Instr.makeFunc fn first cap).run Tryd.prog w = .ok (.func fn first cap) w := fun _ _ _ _ => rfl
  cases hsp : splitR l with
  | ok xs k =>
    have hv := valueS_ok (T := SplitT xs (W1.heap.size + 4)) (g := 28) (cap := #[.pointer (some ⟨w.heap.size, 0, none⟩)]) (q := w.heap.size) (w := W1) (cfSp _) (by omega)
      (fun x W W' b h1 h2 ⟨rows, e1, e2, e3, e4⟩ hg => ⟨rows, e1, e2, e3.past hg (by omega), e4.past hg (by omega)⟩)
      (fun W hbW hzW => (hcl W hbW).mono fun e w' h => by
        unfold Splits at h
        rw [hsp] at h
        obtain ⟨⟨A, c, rows, rfl, e2, e3, e4⟩, hb2⟩ := h
        exact ⟨(A, rows.length, c), rfl, ⟨rows, rfl, e2, e3.mono hzW, fun x hx => (e4 x hx).mono hzW⟩, gb_of_below _ hb2⟩)
    rw [hW1] at hv
    have HV := Lib.hid hv
    have HW := Lib.hid hW1
    have HS := Lib.hid hS
    have HB := Lib.hid hb
    have HSP := Lib.hid hsp
    clear hv hcl hB hS hb hl hh hT hsp
    go_enter Tryd.func17, Tryd.ntmps17
    go_wp2_with (go_at_call 27; go_must ((with_reducible refine HV.out.mono ?_); rintro e w2 ⟨x, rfl, ht, hg⟩; rw [← HW.out] at ht hg; have hs2 := HS.out.grown hg (by simp only [ne_eq, Option.some.injEq]; omega); have m0 := hs2.cell 0; have m1 := hs2.cell 1; have f0 := hs2.frozen 0; have f1 := hs2.frozen 1; simp only [List.getElem?_toArray, List.getElem?_cons_zero, List.getElem?_cons_succ] at m0 m1; have HS2 := Lib.hid hs2; have HT2 := Lib.hid ht; have HG2 := Lib.hid hg; clear hs2 ht hg))
    obtain ⟨p2, j2⟩ := put2 (u0 := .int .i64 0) (u1 := .int .i64 0) HS2.out
    have q8 := p2.cell 0
    have q9 := p2.cell 1
    simp only [List.getElem?_toArray, List.getElem?_cons_zero, List.getElem?_cons_succ] at q8 q9
    obtain ⟨A, n, c⟩ := x
    obtain ⟨rows, e1, e2, e3, e4⟩ := HT2.out
    simp only at e1 e3
    subst e1
    refine bodyPost_ret (v := .tuple #[.slice A rows.length c, .agg #[.int .i64 0, .int .i64 0]]) (by simp [results, Tryd.results17, go_sem, q8, q9]) rfl ?_
    unfold SplitP
    rw [HSP.out]
    exact ⟨⟨A, c, rows, rfl, e2, (e3.past j2 (by omega)).mono (by omega), fun x hx => ((e4 x hx).past j2 (by omega)).mono (by omega)⟩, below_new (below_new HB.out HG2.out (Nat.le_refl _)) j2 (by omega)⟩
  | err c a =>
    have hc0 : ¬ c = 0 := restR_err hsp
    have hv := valueSE_any (g := 28) (cap := #[.pointer (some ⟨w.heap.size, 0, none⟩)]) (q := w.heap.size) (w := W1) (c := c) (a := a) hc0 (cfSp _) (by omega)
      (fun W hbW hzW => (hcl W hbW).mono fun e w' h => by
        unfold Splits at h
        rw [hsp] at h
        exact ⟨h.1, gb_of_below _ h.2⟩)
    rw [hW1] at hv
    have HV := Lib.hid hv
    have HW := Lib.hid hW1
    have HS := Lib.hid hS
    have HB := Lib.hid hb
    have HSP := Lib.hid hsp
    have HC0 := Lib.hid hc0
    clear hv hcl hB hS hb hl hh hT hsp hc0
    go_enter Tryd.func17, Tryd.ntmps17
    go_wp2_with (go_at_call 27; go_must ((with_reducible refine HV.out.mono ?_); rintro e w2 ⟨rfl, hg⟩; rw [← HW.out] at hg; have hs2 := HS.out.grown hg (by simp only [ne_eq, Option.some.injEq]; omega); have m0 := hs2.cell 0; have m1 := hs2.cell 1; have f0 := hs2.frozen 0; have f1 := hs2.frozen 1; simp only [List.getElem?_toArray, List.getElem?_cons_zero, List.getElem?_cons_succ] at m0 m1; have HS2 := Lib.hid hs2; have HG2 := Lib.hid hg; clear hs2 hg))
    obtain ⟨p2, j2⟩ := put2 (u0 := .int .i64 c) (u1 := .int .i64 a) HS2.out
    have q8 := p2.cell 0
    have q9 := p2.cell 1
    simp only [List.getElem?_toArray, List.getElem?_cons_zero, List.getElem?_cons_succ] at q8 q9
    refine bodyPost_ret (v := .tuple #[.slice none 0 0, .agg #[.int .i64 c, .int .i64 a]]) (by simp [results, Tryd.results17, go_sem, q8, q9]) rfl ?_
    unfold SplitP
    rw [HSP.out]
    exact ⟨⟨HC0.out, rfl⟩, below_new (below_new HB.out HG2.out (Nat.le_refl _)) j2 (by omega)⟩
theorem splitR_head : splitR headL = .ok [] 8 := by
  unfold splitR
  exact restR_end
/-- A block of bytes that reads as it was made, marked or not. -/
theorem lies_made (w : World) (xs : List UInt8) (fz : Nat × Nat) : Lies (w.alloc (.cells (cells (nums xs)).toArray 5 fz)) (w.heap.size + 1) (some ⟨w.heap.size, 0, none⟩) (cells (nums xs)) := fun i v hv => by
  refine ⟨w.heap.size, 0, rfl, by omega, ?_⟩
  rw [Nat.zero_add, cell_of_row _ w.heap.size i _ _ fz (heap_alloc_new w _)]
  simpa using hv
theorem head_cells : (cells (nums headL)).toArray = #[.int .u8 0, .int .u8 97, .int .u8 115, .int .u8 109, .int .u8 1, .int .u8 0, .int .u8 0, .int .u8 0] := by rfl
set_option maxHeartbeats 1000000 in
theorem awake_sect (w : World) (hT : Tabs w) : Calls Tryd.prog 10 #[] w fun e w' => e = .returned (.bool true) ∧ Below w.heap.size w w' := by
  have hl := lies_made w headL (8, 9)
  have hs := split_any (cap := 8) (A := some ⟨w.heap.size, 0, none⟩) (l := headL) (w := w.alloc (.cells (cells (nums headL)).toArray 5 (8, 9))) (by rw [size_box]; exact hl) (Nat.le_refl _) rfl (by simp [headL]) (hT.below (below_box w _))
  unfold SplitP at hs
  rw [splitR_head, head_cells] at hs
  have kc := fun (w : World) (C : Array Value) (n c : Nat) => Lib.run_convert_bytes_const (P := Tryd.prog) w 36 5 C n c Tryd.underlying36 Tryd.underlying5
  have heq : ∀ w : World, (binOp BinOp.eql 49 (.agg #[.int .i64 0, .int .i64 0]) (.agg #[.int .i64 0, .int .i64 0])).run Tryd.prog w = .ok (.bool true) w := fun _ => by kernel_rfl
  have HSp := Lib.hid (show Calls Tryd.prog 17 #[.slice (some ⟨w.heap.size, 0, none⟩) 8 8] _ _ from hs)
  clear hs hl
  go_enter Tryd.func10, Tryd.ntmps10
  go_wp2_with (go_at_call 17; go_must ((with_reducible refine HSp.out.mono ?_); rintro e w2 ⟨⟨A2, c2, rows, rfl, hm, -, -⟩, hb⟩; obtain rfl : rows = [] := List.map_eq_nil_iff.1 hm; have HB := Lib.hid hb; clear hb hm))
  go_ret
  exact ⟨rfl, ((below_box w _).trans (HB.out.mono (by simp))).alloc (by have := HB.out.size; simp at this ⊢; omega) _⟩
end Go.Proofs.YtohliaellefhaaaDoor

/- slices.Concat of three pieces; sect.size; single steps that make rows of slices. -/
namespace Go.Proofs.YtohliaellefhaaaDoor
open Go.RowKit
set_option linter.unusedVariables false
set_option maxRecDepth 100000

/-- Bytes that lie somewhere in this world; whose slice is nil only without room. -/
structure Pc (A : Option Addr) (c : Nat) (l : List UInt8) (w : World) : Prop where
  lies : Lies w w.heap.size A (cells (nums l))
  nil : A = none → c = 0
theorem Pc.below {A : Option Addr} {c : Nat} {l : List UInt8} {w w' : World} (h : Pc A c l w) (hb : Below w.heap.size w w') : Pc A c l w' := ⟨(h.lies.below hb (Nat.le_refl _)).more hb.size, h.nil⟩
theorem Pc.from {A : Option Addr} {c : Nat} {l : List UInt8} {w w' : World} {B : Nat} (h : Lies w B A (cells (nums l))) (hn : A = none → c = 0) (hB : B ≤ w.heap.size) (hb : Below w.heap.size w w') : Pc A c l w' := ⟨(h.below hb hB).more (Nat.le_trans hB hb.size), hn⟩
theorem Row.pc {w : World} {B : Nat} {v : Value} {xs : List UInt8} (h : Row w B v xs) : ∃ A c, v = .slice A xs.length c ∧ Pc A c xs w := by
  have h' := h
  obtain ⟨h1, h2⟩ := h
  obtain ⟨A, c, e, h3, h4, h5, _⟩ := lies_own h'
  refine ⟨A, c, e, h5, fun hA => ?_⟩
  rcases h2 with ⟨e2, _⟩ | ⟨g, cap, cur, e2, _⟩
  · rw [e] at e2
    injection e2
  · rw [e, hA] at e2
    injection e2 with e3
    cases e3
theorem Pc.room {A : Option Addr} {c : Nat} {l : List UInt8} {w : World} (h : Pc A c l w) : A = none → c = 0 := h.nil
set_option maxHeartbeats 1600000 in
/-- Concat of three pieces, of which one at least is not empty. -/
theorem concat3 {w : World} {g : Nat} {A1 A2 A3 : Option Addr} {c1 c2 c3 : Nat} {l1 l2 l3 : List UInt8} (hg : Whole w g 36 #[.slice A1 l1.length c1, .slice A2 l2.length c2, .slice A3 l3.length c3])
    (h1 : Pc A1 c1 l1 w) (h2 : Pc A2 c2 l2 w) (h3 : Pc A3 c3 l3 w) (n1 : 0 < l1.length + l2.length + l3.length) (n2 : l1.length + l2.length + l3.length ≤ 1000000) :
    Calls Tryd.prog 21 #[.slice (some ⟨g, 0, none⟩) 3 3] w (BytesL (l1 ++ l2 ++ l3) w) := by
  have g0 : w.cell? ⟨g, 0, none⟩ = some (.slice A1 l1.length c1) := hg.cell 0
  have g1 : w.cell? ⟨g, 1, none⟩ = some (.slice A2 l2.length c2) := hg.cell 1
  have g2 : w.cell? ⟨g, 2, none⟩ = some (.slice A3 l3.length c3) := hg.cell 2
  obtain ⟨m1, hm1⟩ : ∃ m, m = l1.length := ⟨_, rfl⟩
  obtain ⟨m2, hm2⟩ : ∃ m, m = l2.length := ⟨_, rfl⟩
  obtain ⟨m3, hm3⟩ : ∃ m, m = l3.length := ⟨_, rfl⟩
  rw [← hm1, ← hm2, ← hm3] at n1 n2
  rw [← hm1] at g0
  rw [← hm2] at g1
  rw [← hm3] at g2
  have HG := Lib.hid hg
  have H1 := Lib.hid h1
  have H2 := Lib.hid h2
  have H3 := Lib.hid h3
  have HM1 := Lib.hid hm1
  have HM2 := Lib.hid hm2
  have HM3 := Lib.hid hm3
  clear hg h1 h2 h3 hm1 hm2 hm3
  have HGr := Lib.hid (grow_any (m1 + m2 + m3) w (by omega) n2)
  go_enter Tryd.func21, Tryd.ntmps21
  go_wp2
  go_loop [3, 11] (fun s i => (s = .int .i64 0 ∧ i = .int .i64 0) ∨ (s = .int .i64 m1 ∧ i = .int .i64 1) ∨ (s = .int .i64 ((m1 + m2 : Nat) : Int) ∧ i = .int .i64 2) ∨ (s = .int .i64 ((m1 + m2 + m3 : Nat) : Int) ∧ i = .int .i64 3)) (fun _ i => 3 - (intOf i).toNat)
  case atStart => exact .inl ⟨rfl, rfl⟩
  case round =>
    rcases hrel with ⟨rfl, rfl⟩ | ⟨rfl, rfl⟩ | ⟨rfl, rfl⟩ | ⟨rfl, rfl⟩
    · go_wp2
      go_round
      case rel => exact .inr (.inl ⟨by go_num, rfl⟩)
      case measure => simp [intOf]
    · go_wp2
      go_round
      case rel => exact .inr (.inr (.inl ⟨by go_num, rfl⟩))
      case measure => simp [intOf]
    · go_wp2
      go_round
      case rel => exact .inr (.inr (.inr ⟨by go_num, rfl⟩))
      case measure => simp [intOf]
    · go_wp2_with (go_at_call 39; go_must (refine HGr.out.mono ?_; intro e w1 h; obtain ⟨v1, rfl, hr1, hb1⟩ := h; have HR1 := Lib.hid hr1; have HB1 := Lib.hid hb1; clear hr1 hb1))
      go_loopw [6, 27] (fun v i wr => Below w.heap.size w wr ∧ ((Row wr w.heap.size v [] ∧ i = .int .i64 0) ∨ (Row wr w.heap.size v l1 ∧ i = .int .i64 1) ∨ (Row wr w.heap.size v (l1 ++ l2) ∧ i = .int .i64 2) ∨ (Row wr w.heap.size v (l1 ++ l2 ++ l3) ∧ i = .int .i64 3))) (fun _ i _ => 3 - (intOf i).toNat)
      case atStart => exact ⟨HB1.out, .inl ⟨HR1.out, rfl⟩⟩
      case round =>
        obtain ⟨hb, ⟨hr, rfl⟩ | ⟨hr, rfl⟩ | ⟨hr, rfl⟩ | ⟨hr, rfl⟩⟩ := hrel
        · have c0 : wr.cell? ⟨g, 0, none⟩ = some (.slice A1 m1 c1) := by have := (HG.out.below hb).cell 0; rw [HM1.out]; exact this
          have HR := Lib.hid hr
          have HB := Lib.hid hb
          have hz := hb.size
          clear hr hb
          go_wp2_with (at_builtin; (refine row_any rfl _ _ rfl w.heap.size _ [] rfl HR.out A1 m1 c1 wr.heap.size l1 rfl HM1.out.symm (H1.out.below HB.out).lies H1.out.nil (by have := HM1.out; have := HM2.out; have := HM3.out; (try simp only [List.length_nil]); omega) hz ?_; intro v2 w2 hr2 hb2; have HR2 := Lib.hid hr2; have HB2 := Lib.hid hb2; clear hr2 hb2))
          go_roundw
          case rel => exact ⟨HB.out.trans HB2.out, .inr (.inl ⟨by simpa using HR2.out, rfl⟩)⟩
          case measure => simp [intOf]
        · have c0 : wr.cell? ⟨g, 1, none⟩ = some (.slice A2 m2 c2) := by have := (HG.out.below hb).cell 1; rw [HM2.out]; exact this
          have HR := Lib.hid hr
          have HB := Lib.hid hb
          have hz := hb.size
          clear hr hb
          go_wp2_with (at_builtin; (refine row_any rfl _ _ rfl w.heap.size _ l1 rfl HR.out A2 m2 c2 wr.heap.size l2 rfl HM2.out.symm (H2.out.below HB.out).lies H2.out.nil (by have := HM1.out; have := HM2.out; have := HM3.out; (try simp only [List.length_append, List.length_nil]); omega) hz ?_; intro v2 w2 hr2 hb2; have HR2 := Lib.hid hr2; have HB2 := Lib.hid hb2; clear hr2 hb2))
          go_roundw
          case rel => exact ⟨HB.out.trans HB2.out, .inr (.inr (.inl ⟨HR2.out, rfl⟩))⟩
          case measure => simp [intOf]
        · have c0 : wr.cell? ⟨g, 2, none⟩ = some (.slice A3 m3 c3) := by have := (HG.out.below hb).cell 2; rw [HM3.out]; exact this
          have HR := Lib.hid hr
          have HB := Lib.hid hb
          have hz := hb.size
          clear hr hb
          go_wp2_with (at_builtin; (refine row_any rfl _ _ rfl w.heap.size _ (l1 ++ l2) rfl HR.out A3 m3 c3 wr.heap.size l3 rfl HM3.out.symm (H3.out.below HB.out).lies H3.out.nil (by have := HM1.out; have := HM2.out; have := HM3.out; (try simp only [List.length_append]); omega) hz ?_; intro v2 w2 hr2 hb2; have HR2 := Lib.hid hr2; have HB2 := Lib.hid hb2; clear hr2 hb2))
          go_roundw
          case rel => exact ⟨HB.out.trans HB2.out, .inr (.inr (.inr ⟨HR2.out, rfl⟩))⟩
          case measure => simp [intOf]
        · have HR := Lib.hid hr
          have HB := Lib.hid hb
          clear hr hb
          go_wp2
          go_ret
          exact ⟨_, rfl, HR.out, HB.out⟩
end Go.Proofs.YtohliaellefhaaaDoor

/- leb.Int and creelref02.Int (from the leb layer): the least number of groups of seven bits. -/
namespace Go.Proofs.YtohliaellefhaaaDoor
set_option linter.unusedVariables false
open Go.RowKit
set_option maxRecDepth 100000

theorem no_moreS {x : Int} {k : Nat} (h : ∀ m, 1 ≤ m → m ≤ k → ¬ fitS x m) (hq : x / 128 ^ k < -64 ∨ 64 ≤ x / 128 ^ k) : ∀ m, 1 ≤ m → m ≤ k + 1 → ¬ fitS x m := by
  intro m h1 h2 h3
  rcases Nat.lt_or_ge m (k + 1) with g | g
  · exact h m h1 (by omega) h3
  · obtain rfl : m = k + 1 := by omega
    obtain ⟨a, b⟩ : -64 ≤ x / 128 ^ k ∧ x / 128 ^ k < 64 := h3
    omega
theorem bytes_endS {x q : Int} {n k : Nat} {w w2 : World} {v : Value} (hq : q = x / 128 ^ k) (hn : Least (fitS x) n) (hno : ∀ m, 1 ≤ m → m ≤ k → ¬ fitS x m) (hf : -64 ≤ q) (hf2 : q < 64)
    (ho : w2.ownsRow w.heap.size 5 1 v (k + 1) (cells (grps x k) ++ [.int .u8 (q % 128)])) (hb : Below w.heap.size w w2) : Bytes (grp x n) w (.returned v) w2 := by
  have hk : Least (fitS x) (k + 1) := ⟨by omega, by show -64 ≤ x / 128 ^ k ∧ x / 128 ^ k < 64; omega, fun m h1 h2 => hno m h1 (by omega)⟩
  obtain rfl := hk.unique hn
  have e : cells (grp x (k + 1)) = cells (grps x k) ++ [.int .u8 (q % 128)] := by rw [grp_snoc, cells_snoc, ← hq]
  exact bytes_own (by rw [e]; exact ho) (grp_length _ _) hb
theorem div_small {x q : Int} {k : Nat} (h0 : -9223372036854775808 ≤ x) (h1 : x ≤ 9223372036854775807) (hq : q = x / 128 ^ k) : -9223372036854775808 ≤ q ∧ q ≤ 9223372036854775807 := by
  have hp := p128 k
  subst hq
  refine ⟨(Int.le_ediv_iff_mul_le hp).2 ?_, ?_⟩
  · have := Int.mul_le_mul_of_nonneg_left (show (1 : Int) ≤ 128 ^ k by omega) (show (0 : Int) ≤ 9223372036854775808 by omega)
    omega
  · rcases Int.lt_or_le x 0 with g | g
    · have := Int.ediv_neg_of_neg_of_pos g hp; omega
    · exact Int.le_trans (Int.ediv_le_self _ g) h1

set_option maxHeartbeats 800000 in
theorem int_any (x : Int) (w : World) (h0 : -9223372036854775808 ≤ x) (h1 : x ≤ 9223372036854775807) {n : Nat} (hn : Least (fitS x) n) :
    Calls Tryd.prog 82 #[.int .i64 x] w (Bytes (grp x n) w) := by
  obtain ⟨i0, hi0, hz0, hz1, hz2⟩ := info_parts infoB
  have HN := Lib.hid hn
  clear hn
  go_enter Tryd.func82, Tryd.ntmps82
  go_wp2
  go_loopw [3, 0] (fun b v wr => ∃ k : Nat, v = .int .i64 (x / 128 ^ k) ∧ wr.ownsRow w.heap.size 5 1 b k (cells (grps x k)) ∧ Below w.heap.size w wr ∧ ∀ m, 1 ≤ m → m ≤ k → ¬ fitS x m) (fun _ v _ => (intOf v).natAbs)
  case atStart => exact ⟨0, by simp, World.ownsRow_nil _ _ _ _, Below.refl _ _, fun m h1 h2 => by omega⟩
  case round =>
    obtain ⟨k, rfl, hown, hbe, hno⟩ := hrel
    obtain ⟨q, hq⟩ : ∃ q, q = x / 128 ^ k := ⟨_, rfl⟩
    obtain ⟨hq0, hq1⟩ := div_small h0 h1 hq
    have hk : k ≤ 9 := by
      rcases Nat.lt_or_ge k 10 with g | g
      · omega
      · exact absurd (fitS_ten x h0 (by omega)) (hno 10 (by omega) g)
    have hsz := hbe.size
    rw [← hq]
    have HQ := Lib.hid hq
    have HBE := Lib.hid hbe
    have HNO := Lib.hid hno
    have hor : bits .or .u8 (q % 256) 128 = q % 128 + 128 := byte_or q
    have hnot : bits .andNot .u8 (q % 256) 128 = q % 128 := byte_not q
    clear hq hbe hno
    have hparts : q < -64 ∨ 64 ≤ q ∨ (-64 ≤ q ∧ q < 64) := by omega
    rcases hparts with hlt | hlt | ⟨hge, hlt⟩
    · go_wp2_with (at_builtin; refine wpList_append_own _ rfl _ _ _ rfl w.heap.size 5 i0 _ 1 1 Tryd.underlying36 hi0 hz0 hz1 hz2 rfl (by omega) _ _ _ rfl (hown.alloc _) ⟨wr.heap.size, 0, none⟩ 1 1 [.int .u8 (q % 128 + 128)] rfl rfl (World.news_of_block (cs := #[.int .u8 (q % 128 + 128)]) (t := 5) (fr := (0, 0)) (heap_alloc_new wr _)) (by simp [Value.oneCell']) (by unfold maxLen; omega) (by omega) (by simp; omega) ?_; intro v' w2 hown2 hgrow2 _; have HO2 := Lib.hid hown2; have HG2 := Lib.hid hgrow2; clear hown2 hgrow2)
      go_roundw
      case rel => exact ⟨k + 1, by rw [pow_out, HQ.out], by rw [grps_snoc, cells_snoc, ← HQ.out]; exact HO2.out, below_append HBE.out hown HG2.out, no_moreS HNO.out (by rw [← HQ.out]; omega)⟩
      case measure => simp [intOf]; omega
    · have hn0 : ¬ q < -64 := by omega
      go_wp2_with (at_builtin; refine wpList_append_own _ rfl _ _ _ rfl w.heap.size 5 i0 _ 1 1 Tryd.underlying36 hi0 hz0 hz1 hz2 rfl (by omega) _ _ _ rfl (hown.alloc _) ⟨wr.heap.size, 0, none⟩ 1 1 [.int .u8 (q % 128 + 128)] rfl rfl (World.news_of_block (cs := #[.int .u8 (q % 128 + 128)]) (t := 5) (fr := (0, 0)) (heap_alloc_new wr _)) (by simp [Value.oneCell']) (by unfold maxLen; omega) (by omega) (by simp; omega) ?_; intro v' w2 hown2 hgrow2 _; have HO2 := Lib.hid hown2; have HG2 := Lib.hid hgrow2; clear hown2 hgrow2)
      go_roundw
      case rel => exact ⟨k + 1, by rw [pow_out, HQ.out], by rw [grps_snoc, cells_snoc, ← HQ.out]; exact HO2.out, below_append HBE.out hown HG2.out, no_moreS HNO.out (by rw [← HQ.out]; omega)⟩
      case measure => simp [intOf]; omega
    · have hd : decide (64 ≤ q) = false := by simpa using hlt
      go_wp2_with (at_builtin; refine wpList_append_own _ rfl _ _ _ rfl w.heap.size 5 i0 _ 1 1 Tryd.underlying36 hi0 hz0 hz1 hz2 rfl (by omega) _ _ _ rfl (hown.alloc _) ⟨wr.heap.size, 0, none⟩ 1 1 [.int .u8 (q % 128)] rfl rfl (World.news_of_block (cs := #[.int .u8 (q % 128)]) (t := 5) (fr := (0, 0)) (heap_alloc_new wr _)) (by simp [Value.oneCell']) (by unfold maxLen; omega) (by omega) (by simp; omega) ?_; intro v' w2 hown2 hgrow2 _; have HO2 := Lib.hid hown2; have HG2 := Lib.hid hgrow2; clear hown2 hgrow2)
      go_ret
      exact bytes_endS HQ.out HN.out HNO.out (by omega) (by omega) HO2.out (below_append HBE.out hown HG2.out)
theorem fitS_any {x : Int} (h0 : -9223372036854775808 ≤ x) (h1 : x ≤ 9223372036854775807) (k : Nat) (a : 1 ≤ k) (b : k ≤ 9) : fitS x k ↔ anyB x (bit x 63) (7 * k - 1) 64 = false := by
  rw [any_none]; exact fitS_bits (by show -9223372036854775808 ≤ x; omega) (by show x < 9223372036854775808; omega) a b
theorem mod64_bit (x : Int) (j : Nat) (hj : j < 64) : bit (x % 18446744073709551616) j = bit x j := by
  unfold bit
  have e : (18446744073709551616 : Int) = 2 ^ j * 2 * 2 ^ (63 - j) := by
    rw [show (2 : Int) ^ j * 2 = 2 ^ (j + 1) from (Int.pow_succ 2 j).symm, ← Int.pow_add, show j + 1 + (63 - j) = 64 by omega]; rfl
  have hp := p2 j
  have e2 : x = x % 18446744073709551616 + 2 ^ j * (2 * 2 ^ (63 - j) * (x / 18446744073709551616)) := by
    rw [← Int.mul_assoc, ← Int.mul_assoc, ← e]; exact (Int.emod_add_mul_ediv x _).symm
  generalize x % 18446744073709551616 = y at *
  generalize x / 18446744073709551616 = z at *
  rw [e2, Int.add_mul_ediv_left _ _ (Int.ne_of_gt hp), Int.mul_assoc 2]
  congr 1
  omega
theorem bools_mod (x : Int) : bools (x % 18446744073709551616) 64 = bools x 64 := by
  unfold bools
  apply List.map_congr_left
  intro j hj
  rw [mod64_bit x j (List.mem_range.1 hj)]
theorem sign_bits {x : Int} (h0 : -9223372036854775808 ≤ x) (h1 : x ≤ 9223372036854775807) (j : Nat) (hj : 63 ≤ j) : bit x j = bit x 63 := by
  have h : x / 2 ^ 63 = 0 ∨ x / 2 ^ 63 = -1 := by
    show x / 9223372036854775808 = 0 ∨ x / 9223372036854775808 = -1
    omega
  rcases h with h | h
  · rw [from_same (a := 63) (t := false) (by simpa using h) j hj, from_same (a := 63) (t := false) (by simpa using h) 63 (by omega)]
  · rw [from_same (a := 63) (t := true) (by simpa using h) j hj, from_same (a := 63) (t := true) (by simpa using h) 63 (by omega)]

end Go.Proofs.YtohliaellefhaaaDoor

/- leb.Uint, leb.Int: what they hand back is a row of the call's own; a signed number's bytes. (By gen/genOwn.py from the leb layer.) -/
namespace Go.Proofs.YtohliaellefhaaaDoor
open Go.RowKit
set_option linter.unusedVariables false
set_option maxRecDepth 100000

def Owned (l : List Int) (w : World) (e : Ending) (w' : World) : Prop := ∃ v, e = .returned v ∧ w'.ownsRow w.heap.size 5 1 v l.length (cells l) ∧ Below w.heap.size w w'
theorem owned_own {w w' : World} {n : Nat} {v : Value} {l : List Int} (h : w'.ownsRow w.heap.size 5 1 v n (cells l)) (hn : l.length = n) (hb : Below w.heap.size w w') : Owned l w (.returned v) w' := by
  subst hn
  exact ⟨v, rfl, h, hb⟩
theorem own_end {x q : Int} {n k : Nat} {w w2 : World} {v : Value} (hq : q = x / 128 ^ k) (hn : Least (fitU x) n) (hno : ∀ m, 1 ≤ m → m ≤ k → ¬ fitU x m) (hf : q < 128)
    (ho : w2.ownsRow w.heap.size 5 1 v (k + 1) (cells (grps x k) ++ [.int .u8 q])) (hb : Below w.heap.size w w2) (h0 : 0 ≤ q) : Owned (grp x n) w (.returned v) w2 := by
  have hk : Least (fitU x) (k + 1) := ⟨by omega, by show x / 128 ^ k < 128; omega, fun m h1 h2 => hno m h1 (by omega)⟩
  obtain rfl := hk.unique hn
  have e : cells (grp x (k + 1)) = cells (grps x k) ++ [.int .u8 q] := by rw [grp_snoc, cells_snoc, ← hq, show q % 128 = q by omega]
  exact owned_own (by rw [e]; exact ho) (grp_length _ _) hb

set_option maxHeartbeats 400000 in
theorem uint_own (x : Int) (w : World) (h0 : 0 ≤ x) (h1 : x ≤ 18446744073709551615) {n : Nat} (hn : Least (fitU x) n) :
    Calls Tryd.prog 52 #[.int .u64 x] w (Owned (grp x n) w) := by
  have h10 : n ≤ 10 := hn.le (by omega) (fitU_ten x (by omega))
  obtain ⟨i0, hi0, hz0, hz1, hz2⟩ := info_parts infoB
  have HN := Lib.hid hn
  clear hn
  go_enter Tryd.func52, Tryd.ntmps52
  go_wp2_with (first
    | (go_at_call 69; go_must (refine (size_any _ _ h0 h1 HN.out).mono ?_; rintro e w' ⟨rfl, rfl⟩))
    | (at_make; refine wpList_make_own _ rfl _ _ _ rfl w.heap.size 5 i0 _ 1 Tryd.underlying36 hi0 hz0 hz1 .i64 .i64 _ n rfl rfl rfl (by rw [hz2]; omega) (by unfold maxLen; omega) (Nat.le_refl _) ?_; intro w1 hown1 hgrow1))
  have hbe1 : Below w.heap.size w w1 := below_of_gb hgrow1
  have HO := Lib.hid hown1
  have HB := Lib.hid hbe1
  clear hown1 hgrow1 hbe1
  go_loopw [3, 0] (fun b v wr => ∃ k : Nat, v = .int .u64 (x / 128 ^ k) ∧ wr.ownsRow w.heap.size 5 1 b k (cells (grps x k)) ∧ Below w.heap.size w wr ∧ ∀ m, 1 ≤ m → m ≤ k → ¬ fitU x m) (fun _ v _ => (intOf v).toNat)
  case atStart => exact ⟨0, by simp, HO.out, HB.out, fun m h1 h2 => by omega⟩
  case round =>
    obtain ⟨k, rfl, hown, hbe, hno⟩ := hrel
    obtain ⟨q, hq⟩ : ∃ q, q = x / 128 ^ k := ⟨_, rfl⟩
    have hq0 : 0 ≤ q := by rw [hq]; exact Int.ediv_nonneg h0 (Int.le_of_lt (p128 _))
    have hq1 : q ≤ 18446744073709551615 := by rw [hq]; exact Int.le_trans (Int.ediv_le_self _ h0) h1
    have hk : k ≤ 9 := by
      rcases Nat.lt_or_ge k 10 with g | g
      · omega
      · exact absurd (fitU_ten x (by omega)) (hno 10 (by omega) g)
    have hsz := hbe.size
    rw [← hq]
    have HQ := Lib.hid hq
    have HBE := Lib.hid hbe
    have HNO := Lib.hid hno
    have hor : bits .or .u8 (q % 256) 128 = q % 128 + 128 := byte_or q
    clear hq hbe hno
    by_cases hlt : 128 ≤ q
    · go_wp2_with (at_builtin; refine wpList_append_own _ rfl _ _ _ rfl w.heap.size 5 i0 _ 1 1 Tryd.underlying36 hi0 hz0 hz1 hz2 rfl (by omega) _ _ _ rfl (hown.alloc _) ⟨wr.heap.size, 0, none⟩ 1 1 [.int .u8 (q % 128 + 128)] rfl rfl (World.news_of_block (cs := #[.int .u8 (q % 128 + 128)]) (t := 5) (fr := (0, 0)) (heap_alloc_new wr _)) (by simp [Value.oneCell']) (by unfold maxLen; omega) (by omega) (by simp; omega) ?_; intro v' w2 hown2 hgrow2 _; have HO2 := Lib.hid hown2; have HG2 := Lib.hid hgrow2; clear hown2 hgrow2)
      go_roundw
      case rel => exact ⟨k + 1, by rw [pow_out, HQ.out], by rw [grps_snoc, cells_snoc, ← HQ.out]; exact HO2.out, below_append HBE.out hown HG2.out, no_more HNO.out (by rw [← HQ.out]; omega)⟩
      case measure => simp [intOf]; omega
    · go_wp2_with (at_builtin; refine wpList_append_own _ rfl _ _ _ rfl w.heap.size 5 i0 _ 1 1 Tryd.underlying36 hi0 hz0 hz1 hz2 rfl (by omega) _ _ _ rfl (hown.alloc _) ⟨wr.heap.size, 0, none⟩ 1 1 [.int .u8 q] rfl rfl (World.news_of_block (cs := #[.int .u8 q]) (t := 5) (fr := (0, 0)) (heap_alloc_new wr _)) (by simp [Value.oneCell']) (by unfold maxLen; omega) (by omega) (by simp; omega) ?_; intro v' w2 hown2 hgrow2 _; have HO2 := Lib.hid hown2; have HG2 := Lib.hid hgrow2; clear hown2 hgrow2)
      go_ret
      exact own_end HQ.out HN.out HNO.out (by omega) HO2.out (below_append HBE.out hown HG2.out) hq0

theorem own_endS {x q : Int} {n k : Nat} {w w2 : World} {v : Value} (hq : q = x / 128 ^ k) (hn : Least (fitS x) n) (hno : ∀ m, 1 ≤ m → m ≤ k → ¬ fitS x m) (hf : -64 ≤ q) (hf2 : q < 64)
    (ho : w2.ownsRow w.heap.size 5 1 v (k + 1) (cells (grps x k) ++ [.int .u8 (q % 128)])) (hb : Below w.heap.size w w2) : Owned (grp x n) w (.returned v) w2 := by
  have hk : Least (fitS x) (k + 1) := ⟨by omega, by show -64 ≤ x / 128 ^ k ∧ x / 128 ^ k < 64; omega, fun m h1 h2 => hno m h1 (by omega)⟩
  obtain rfl := hk.unique hn
  have e : cells (grp x (k + 1)) = cells (grps x k) ++ [.int .u8 (q % 128)] := by rw [grp_snoc, cells_snoc, ← hq]
  exact owned_own (by rw [e]; exact ho) (grp_length _ _) hb
set_option maxHeartbeats 800000 in
theorem int_own (x : Int) (w : World) (h0 : -9223372036854775808 ≤ x) (h1 : x ≤ 9223372036854775807) {n : Nat} (hn : Least (fitS x) n) :
    Calls Tryd.prog 82 #[.int .i64 x] w (Owned (grp x n) w) := by
  obtain ⟨i0, hi0, hz0, hz1, hz2⟩ := info_parts infoB
  have HN := Lib.hid hn
  clear hn
  go_enter Tryd.func82, Tryd.ntmps82
  go_wp2
  go_loopw [3, 0] (fun b v wr => ∃ k : Nat, v = .int .i64 (x / 128 ^ k) ∧ wr.ownsRow w.heap.size 5 1 b k (cells (grps x k)) ∧ Below w.heap.size w wr ∧ ∀ m, 1 ≤ m → m ≤ k → ¬ fitS x m) (fun _ v _ => (intOf v).natAbs)
  case atStart => exact ⟨0, by simp, World.ownsRow_nil _ _ _ _, Below.refl _ _, fun m h1 h2 => by omega⟩
  case round =>
    obtain ⟨k, rfl, hown, hbe, hno⟩ := hrel
    obtain ⟨q, hq⟩ : ∃ q, q = x / 128 ^ k := ⟨_, rfl⟩
    obtain ⟨hq0, hq1⟩ := div_small h0 h1 hq
    have hk : k ≤ 9 := by
      rcases Nat.lt_or_ge k 10 with g | g
      · omega
      · exact absurd (fitS_ten x h0 (by omega)) (hno 10 (by omega) g)
    have hsz := hbe.size
    rw [← hq]
    have HQ := Lib.hid hq
    have HBE := Lib.hid hbe
    have HNO := Lib.hid hno
    have hor : bits .or .u8 (q % 256) 128 = q % 128 + 128 := byte_or q
    have hnot : bits .andNot .u8 (q % 256) 128 = q % 128 := byte_not q
    clear hq hbe hno
    have hparts : q < -64 ∨ 64 ≤ q ∨ (-64 ≤ q ∧ q < 64) := by omega
    rcases hparts with hlt | hlt | ⟨hge, hlt⟩
    · go_wp2_with (at_builtin; refine wpList_append_own _ rfl _ _ _ rfl w.heap.size 5 i0 _ 1 1 Tryd.underlying36 hi0 hz0 hz1 hz2 rfl (by omega) _ _ _ rfl (hown.alloc _) ⟨wr.heap.size, 0, none⟩ 1 1 [.int .u8 (q % 128 + 128)] rfl rfl (World.news_of_block (cs := #[.int .u8 (q % 128 + 128)]) (t := 5) (fr := (0, 0)) (heap_alloc_new wr _)) (by simp [Value.oneCell']) (by unfold maxLen; omega) (by omega) (by simp; omega) ?_; intro v' w2 hown2 hgrow2 _; have HO2 := Lib.hid hown2; have HG2 := Lib.hid hgrow2; clear hown2 hgrow2)
      go_roundw
      case rel => exact ⟨k + 1, by rw [pow_out, HQ.out], by rw [grps_snoc, cells_snoc, ← HQ.out]; exact HO2.out, below_append HBE.out hown HG2.out, no_moreS HNO.out (by rw [← HQ.out]; omega)⟩
      case measure => simp [intOf]; omega
    · have hn0 : ¬ q < -64 := by omega
      go_wp2_with (at_builtin; refine wpList_append_own _ rfl _ _ _ rfl w.heap.size 5 i0 _ 1 1 Tryd.underlying36 hi0 hz0 hz1 hz2 rfl (by omega) _ _ _ rfl (hown.alloc _) ⟨wr.heap.size, 0, none⟩ 1 1 [.int .u8 (q % 128 + 128)] rfl rfl (World.news_of_block (cs := #[.int .u8 (q % 128 + 128)]) (t := 5) (fr := (0, 0)) (heap_alloc_new wr _)) (by simp [Value.oneCell']) (by unfold maxLen; omega) (by omega) (by simp; omega) ?_; intro v' w2 hown2 hgrow2 _; have HO2 := Lib.hid hown2; have HG2 := Lib.hid hgrow2; clear hown2 hgrow2)
      go_roundw
      case rel => exact ⟨k + 1, by rw [pow_out, HQ.out], by rw [grps_snoc, cells_snoc, ← HQ.out]; exact HO2.out, below_append HBE.out hown HG2.out, no_moreS HNO.out (by rw [← HQ.out]; omega)⟩
      case measure => simp [intOf]; omega
    · have hd : decide (64 ≤ q) = false := by simpa using hlt
      go_wp2_with (at_builtin; refine wpList_append_own _ rfl _ _ _ rfl w.heap.size 5 i0 _ 1 1 Tryd.underlying36 hi0 hz0 hz1 hz2 rfl (by omega) _ _ _ rfl (hown.alloc _) ⟨wr.heap.size, 0, none⟩ 1 1 [.int .u8 (q % 128)] rfl rfl (World.news_of_block (cs := #[.int .u8 (q % 128)]) (t := 5) (fr := (0, 0)) (heap_alloc_new wr _)) (by simp [Value.oneCell']) (by unfold maxLen; omega) (by omega) (by simp; omega) ?_; intro v' w2 hown2 hgrow2 _; have HO2 := Lib.hid hown2; have HG2 := Lib.hid hgrow2; clear hown2 hgrow2)
      go_ret
      exact own_endS HQ.out HN.out HNO.out (by omega) (by omega) HO2.out (below_append HBE.out hown HG2.out)
theorem leastS (x : Int) (h0 : -9223372036854775808 ≤ x) (h1 : x ≤ 9223372036854775807) : ∃ n, Least (fitS x) n := least_find _ 10 (by omega) (fitS_ten x h0 (by omega))
/-- How many bytes a number with a sign takes. -/
noncomputable def sebN (x : Int) : Nat := if h : -9223372036854775808 ≤ x ∧ x ≤ 9223372036854775807 then (leastS x h.1 h.2).choose else 1
/-- A number's bytes, with a sign. -/
noncomputable def sebL (x : Int) : List UInt8 := (grp x (sebN x)).map fun c => UInt8.ofNat c.toNat
theorem sebN_least (x : Int) (h0 : -9223372036854775808 ≤ x) (h1 : x ≤ 9223372036854775807) : Least (fitS x) (sebN x) := by
  unfold sebN
  rw [dif_pos ⟨h0, h1⟩]
  exact (leastS x h0 h1).choose_spec
theorem nums_grp (x : Int) (n : Nat) : nums ((grp x n).map fun c => UInt8.ofNat c.toNat) = grp x n := by
  unfold nums
  rw [List.map_map]
  conv => rhs; rw [← List.map_id (grp x n)]
  apply List.map_congr_left
  intro c hc
  have := grp_bytes x _ c hc
  simp
  omega
theorem nums_sebL (x : Int) : nums (sebL x) = grp x (sebN x) := nums_grp x _
theorem sebL_length (x : Int) : (sebL x).length = sebN x := by unfold sebL; rw [List.length_map, grp_length]
theorem sebL_len (x : Int) (h0 : -9223372036854775808 ≤ x) (h1 : x ≤ 9223372036854775807) : 1 ≤ (sebL x).length ∧ (sebL x).length ≤ 10 := by
  rw [sebL_length]
  have h2 := sebN_least x h0 h1
  exact ⟨h2.1, h2.le (by omega) (fitS_ten x h0 (by omega))⟩
theorem bytesL_of {xs : List Int} {l : List UInt8} {w w' : World} {e : Ending} (h : Owned xs w e w') (hl : nums l = xs) : BytesL l w e w' := by
  obtain ⟨v, rfl, h1, h2⟩ := h
  subst hl
  rw [nums_length] at h1
  exact ⟨v, rfl, h1, h2⟩
theorem uintB (x : Int) (w : World) (h0 : 0 ≤ x) (h1 : x ≤ 18446744073709551615) : Calls Tryd.prog 52 #[.int .u64 x] w (BytesL (lebL x) w) :=
  (uint_own x w h0 h1 (lebN_least x h1)).mono fun _ _ h => bytesL_of h (nums_lebL x)
theorem intB (x : Int) (w : World) (h0 : -9223372036854775808 ≤ x) (h1 : x ≤ 9223372036854775807) : Calls Tryd.prog 82 #[.int .i64 x] w (BytesL (sebL x) w) :=
  (int_own x w h0 h1 (sebN_least x h0 h1)).mono fun _ _ h => bytesL_of h (nums_sebL x)
end Go.Proofs.YtohliaellefhaaaDoor
