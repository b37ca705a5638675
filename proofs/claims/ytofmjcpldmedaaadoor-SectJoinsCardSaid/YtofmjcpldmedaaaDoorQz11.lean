/- sect.Split of bytes that begin with Head; awake. -/
import Derived.Test.YtofmjcpldmedaaaDoorQz10
import Derived.Lib.SlBytesConst
import Derived.Test.YtofmjcpldmedaaaDoorQz03
import Derived.Deep.CutBlock
import Derived.Deep.DeepCutAuto
namespace Go.Proofs.YtofmjcpldmedaaaDoor
open Go.RowKit Go.Lib
set_option linter.unusedVariables false
set_option maxRecDepth 100000

/-- What a module begins with. -/
def headL : List UInt8 := [0, 97, 115, 109, 1, 0, 0, 0]
theorem TbN.of {w w' : World} {q : Nat} (h : Tabs w) (hb : Below w.heap.size w w') (hq : w.heap.size ≤ q) (hz : q ≤ w'.heap.size) : TbN q w' := by
  have h1 := block_lt_of_cell (h.1 0 (by omega))
  have h2 := block_lt_of_cell (h.2 0 (by omega)).1
  exact ⟨h.below hb, Nat.lt_of_lt_of_le h1 hq, Nat.lt_of_lt_of_le h2 hq, hz⟩
/-- What Split reads of bytes that begin with Head. -/
noncomputable def splitR (l : List UInt8) : Res (List Sct) := restR l (l.length + 1) 8 0 []
/-- What Split's closure ends with. -/
def Splits (l : List UInt8) (w : World) (e : Ending) (w' : World) : Prop := (match splitR l with
  | .ok xs k => ∃ A c rows, e = .returned (.slice A rows.length c) ∧ rows.map (·.1) = xs ∧ RowS w' w.heap.size (.slice A rows.length c) rows ∧ AllB w' w.heap.size rows
  | .err c a => e = .panicked (stopP c a)) ∧ Below w.heap.size w w'
theorem below_new {w w1 w2 : World} {q : Nat} (h : Below w.heap.size w w1) (hg : w1.grownBy w2 (some q)) (hq : w.heap.size ≤ q) : Below w.heap.size w w2 :=
  Below.grown h hg h.size (fun g e => by injection e with e; omega)
theorem splits_of {w w1 w2 : World} {l : List UInt8} {q : Nat} {e : Ending} (hb : Below w.heap.size w w1) (hz : w.heap.size ≤ q) (h : Rested q l w1 (splitR l) e w2) : Splits l w e w2 := by
  unfold Splits
  cases hr : splitR l with
  | ok xs k =>
    rw [hr] at h
    obtain ⟨v, rows, rfl, hm, h1, h2, h3, h4⟩ := h
    obtain ⟨A, c, rfl⟩ := h1.slice
    exact ⟨⟨A, c, rows, rfl, hm, h1.mono hb.size, fun x hx => (h2 x hx).mono hb.size⟩, below_new hb h4 hz⟩
  | err c a =>
    rw [hr] at h
    exact ⟨h.1, below_new hb h.2 hz⟩
theorem cfSp (cap : Array Value) (w : World) : (callFunc 19 cap).run Tryd.prog w = .ok (.enter 19 cap) w := by kernel_rfl
set_option maxHeartbeats 1000000 in
theorem splitC {w : World} {B0 cap : Nat} {A : Option Addr} {l : List UInt8} (hB : Whole w B0 25 #[.slice A l.length cap]) (hl : Lies w w.heap.size A (cells (nums l))) (h8 : 8 ≤ l.length) (hh : l.take 8 = headL) (hm : l.length ≤ 1000000) (hT : Tabs w) :
    Calls Tryd.prog 19 #[.pointer (some ⟨B0, 0, none⟩)] w (Splits l w) := by
  have c0 := hB.cell 0
  simp only [List.getElem?_toArray, List.getElem?_cons_zero] at c0
  have HO := Lib.hid (over_all (cap := cap) hl hm)
  have HT := Lib.hid hT
  have HH := Lib.hid (show (l.drop 0).take 8 = headL from hh)
  have HBy := Lib.hid (fun (W : World) (q : Nat) (hs : Sc W q l 0) => show Calls Tryd.prog 22 #[.pointer (some ⟨q, 0, none⟩), .int .i64 8] W (Byted q l 0 8 W) from bytes_ok hs 8 (by omega) hm)
  have d1 : (l.length : Int) ≤ 4194304 := by omega
  have d2 : (8 : Int) ≤ l.length := by omega
  clear hB hl hh hT
  have e5 : ((S headL).toList == [0, 97, 115, 109, 1, 0, 0, 0]) = true := by rw [S_toList]; rfl
  cases hsp : splitR l with
  | ok xs k =>
    have HSP := Lib.hid hsp
    clear hsp
    go_enter Tryd.func19, Tryd.ntmps19
    go_wp2_with (first
      | (go_at_call 20; go_must ((with_reducible refine (unlessT _ _ _).mono ?_); rintro e w' ⟨rfl, rfl⟩))
      | (go_at_call 21; go_must ((with_reducible refine HO.out.mono ?_); rintro e w1 ⟨q, rfl, hq, hs, hb⟩; have HQ := Lib.hid hq; have HB := Lib.hid hb; have HS := Lib.hid hs; have HTB := Lib.hid (TbN.of HT.out hb hq (Nat.le_of_lt hs.lt)); clear hq hb hs))
      | (go_at_call 22; go_must ((with_reducible refine (HBy.out _ _ HS.out).mono ?_); rintro e w2 ⟨v, rfl, hr, hs, hg⟩; rw [HH.out] at hr; obtain ⟨A2, c2, hv, hst⟩ := str_own hr; subst hv; have HS2 := Lib.hid hs; have HG2 := Lib.hid hg; have HR2 := Lib.hid (rest_sect hs (HTB.out.keep hg (Nat.le_refl _)) hm); have HB2 := Lib.hid (below_new HB.out hg HQ.out); clear hr hs hg))
      | (go_at_call 23; go_must ((with_reducible refine HR2.out.mono ?_); intro e w3 h3; have h4 := splits_of HB2.out HQ.out h3; unfold Splits at h4; rw [HSP.out] at h4; obtain ⟨⟨A3, c3, rows, rfl, h5⟩, hb3⟩ := h4; have H5 := Lib.hid h5; have HB3 := Lib.hid hb3; clear h3 h5 hb3)))
    go_ret
    unfold Splits
    rw [HSP.out]
    exact ⟨⟨A3, c3, rows, rfl, H5.out⟩, HB3.out⟩
  | err c a =>
    have HSP := Lib.hid hsp
    clear hsp
    go_enter Tryd.func19, Tryd.ntmps19
    go_wp2_with (first
      | (go_at_call 20; go_must ((with_reducible refine (unlessT _ _ _).mono ?_); rintro e w' ⟨rfl, rfl⟩))
      | (go_at_call 21; go_must ((with_reducible refine HO.out.mono ?_); rintro e w1 ⟨q, rfl, hq, hs, hb⟩; have HQ := Lib.hid hq; have HB := Lib.hid hb; have HS := Lib.hid hs; have HTB := Lib.hid (TbN.of HT.out hb hq (Nat.le_of_lt hs.lt)); clear hq hb hs))
      | (go_at_call 22; go_must ((with_reducible refine (HBy.out _ _ HS.out).mono ?_); rintro e w2 ⟨v, rfl, hr, hs, hg⟩; rw [HH.out] at hr; obtain ⟨A2, c2, hv, hst⟩ := str_own hr; subst hv; have HS2 := Lib.hid hs; have HG2 := Lib.hid hg; have HR2 := Lib.hid (rest_sect hs (HTB.out.keep hg (Nat.le_refl _)) hm); have HB2 := Lib.hid (below_new HB.out hg HQ.out); clear hr hs hg))
      | (go_at_call 23; go_must ((with_reducible refine HR2.out.mono ?_); intro e w3 h3; have h4 := splits_of HB2.out HQ.out h3; unfold Splits at h4; rw [HSP.out] at h4; obtain ⟨rfl, hb3⟩ := h4; have HB3 := Lib.hid hb3; clear h3 hb3)))
    refine ⟨rfl, ?_⟩
    unfold Splits
    rw [HSP.out]
    exact ⟨rfl, HB3.out⟩
/-- What Split hands back. -/
def SplitP (l : List UInt8) (w : World) (e : Ending) (w' : World) : Prop := (match splitR l with
  | .ok xs k => ∃ A c rows, e = .returned (.tuple #[.slice A rows.length c, .agg #[.int .i64 0, .int .i64 0]]) ∧ rows.map (·.1) = xs ∧ RowS w' w.heap.size (.slice A rows.length c) rows ∧ AllB w' w.heap.size rows
  | .err c a => c ≠ 0 ∧ e = .returned (.tuple #[.slice none 0 0, .agg #[.int .i64 c, .int .i64 a]])) ∧ Below w.heap.size w w'
/-- The list that Value's closure hands back. -/
def SplitT (xs : List Sct) (base : Nat) (x : Option Addr × Nat × Nat) (W : World) : Prop := ∃ rows, x.2.1 = rows.length ∧ rows.map (·.1) = xs ∧ RowS W base (.slice x.1 x.2.1 x.2.2) rows ∧ AllB W base rows
set_option maxHeartbeats 1000000 in
theorem split_any {w : World} {cap : Nat} {A : Option Addr} {l : List UInt8} (hl : Lies w w.heap.size A (cells (nums l))) (h8 : 8 ≤ l.length) (hh : l.take 8 = headL) (hm : l.length ≤ 1000000) (hT : Tabs w) :
    Calls Tryd.prog 11 #[.slice A l.length cap] w (SplitP l w) := by
  obtain ⟨W1, hW1⟩ : ∃ W1, W1 = (w.alloc (.cells #[.slice A l.length cap] 25)).alloc (.cells #[.int .i64 0, .int .i64 0] 39) := ⟨_, rfl⟩
  have hz : W1.heap.size = w.heap.size + 2 := by rw [hW1, size_box, size_box]
  have hB : Whole W1 w.heap.size 25 #[.slice A l.length cap] := by rw [hW1]; exact (Whole.made _ _ _).alloc _
  have hS : Whole W1 (w.heap.size + 1) 39 #[.int .i64 0, .int .i64 0] := by rw [hW1]; exact made_2 _ _ _ _
  have hb : Below w.heap.size w W1 := by rw [hW1]; exact ((Below.refl _ _).alloc (Nat.le_refl _) _).alloc (by simp) _
  have hcl : ∀ W, Below W1.heap.size W1 W → Calls Tryd.prog 19 #[.pointer (some ⟨w.heap.size, 0, none⟩)] W (Splits l W) := fun W hbW => by
    have hbw : Below w.heap.size w W := hb.trans (hbW.mono hb.size)
    exact splitC (hB.below hbW) ((hl.below hbw (Nat.le_refl _)).more hbw.size) h8 hh hm (hT.below hbw)
  have hmf : ∀ (fn : Fn) (first cap : Array Value) (w : World), (Instr.makeFunc fn first cap).run Tryd.prog w = .ok (.func fn first cap) w := fun _ _ _ _ => rfl
  cases hsp : splitR l with
  | ok xs k =>
    have hv := valueS_ok (T := SplitT xs (W1.heap.size + 4)) (g := 19) (cap := #[.pointer (some ⟨w.heap.size, 0, none⟩)]) (q := w.heap.size) (w := W1) (cfSp _) (by omega)
      (fun x W W' b h1 h2 ⟨rows, e1, e2, e3, e4⟩ hg => ⟨rows, e1, e2, e3.past hg (by omega), e4.past hg (by omega)⟩)
      (fun W hbW hzW => (hcl W hbW).mono fun e w' h => by
        unfold Splits at h
        rw [hsp] at h
        obtain ⟨⟨A, c, rows, rfl, e2, e3, e4⟩, hb2⟩ := h
        exact ⟨(A, rows.length, c), rfl, ⟨rows, rfl, e2, e3.mono hzW, fun x hx => (e4 x hx).mono hzW⟩, gb_of_below _ hb2⟩)
    rw [hW1] at hv
    have HV := Lib.hid hv
    have HW := Lib.hid hW1
    have HS := Lib.hid hS
    have HB := Lib.hid hb
    have HSP := Lib.hid hsp
    clear hv hcl hB hS hb hl hh hT hsp
    go_enter Tryd.func11, Tryd.ntmps11
    go_wp2_with (go_at_call 18; go_must ((with_reducible refine HV.out.mono ?_); rintro e w2 ⟨x, rfl, ht, hg⟩; rw [← HW.out] at ht hg; have hs2 := HS.out.grown hg (by simp only [ne_eq, Option.some.injEq]; omega); have m0 := hs2.cell 0; have m1 := hs2.cell 1; have f0 := hs2.frozen 0; have f1 := hs2.frozen 1; simp only [List.getElem?_toArray, List.getElem?_cons_zero, List.getElem?_cons_succ] at m0 m1; have HS2 := Lib.hid hs2; have HT2 := Lib.hid ht; have HG2 := Lib.hid hg; clear hs2 ht hg))
    obtain ⟨p2, j2⟩ := put2 (u0 := .int .i64 0) (u1 := .int .i64 0) HS2.out
    have q8 := p2.cell 0
    have q9 := p2.cell 1
    simp only [List.getElem?_toArray, List.getElem?_cons_zero, List.getElem?_cons_succ] at q8 q9
    obtain ⟨A, n, c⟩ := x
    obtain ⟨rows, e1, e2, e3, e4⟩ := HT2.out
    simp only at e1 e3
    subst e1
    refine bodyPost_ret (v := .tuple #[.slice A rows.length c, .agg #[.int .i64 0, .int .i64 0]]) (by simp [results, Tryd.results11, go_sem, q8, q9]) rfl ?_
    unfold SplitP
    rw [HSP.out]
    exact ⟨⟨A, c, rows, rfl, e2, (e3.past j2 (by omega)).mono (by omega), fun x hx => ((e4 x hx).past j2 (by omega)).mono (by omega)⟩, below_new (below_new HB.out HG2.out (Nat.le_refl _)) j2 (by omega)⟩
  | err c a =>
    have hc0 : ¬ c = 0 := restR_err hsp
    have hv := valueSE_any (g := 19) (cap := #[.pointer (some ⟨w.heap.size, 0, none⟩)]) (q := w.heap.size) (w := W1) (c := c) (a := a) hc0 (cfSp _) (by omega)
      (fun W hbW hzW => (hcl W hbW).mono fun e w' h => by
        unfold Splits at h
        rw [hsp] at h
        exact ⟨h.1, gb_of_below _ h.2⟩)
    rw [hW1] at hv
    have HV := Lib.hid hv
    have HW := Lib.hid hW1
    have HS := Lib.hid hS
    have HB := Lib.hid hb
    have HSP := Lib.hid hsp
    have HC0 := Lib.hid hc0
    clear hv hcl hB hS hb hl hh hT hsp hc0
    go_enter Tryd.func11, Tryd.ntmps11
    go_wp2_with (go_at_call 18; go_must ((with_reducible refine HV.out.mono ?_); rintro e w2 ⟨rfl, hg⟩; rw [← HW.out] at hg; have hs2 := HS.out.grown hg (by simp only [ne_eq, Option.some.injEq]; omega); have m0 := hs2.cell 0; have m1 := hs2.cell 1; have f0 := hs2.frozen 0; have f1 := hs2.frozen 1; simp only [List.getElem?_toArray, List.getElem?_cons_zero, List.getElem?_cons_succ] at m0 m1; have HS2 := Lib.hid hs2; have HG2 := Lib.hid hg; clear hs2 hg))
    obtain ⟨p2, j2⟩ := put2 (u0 := .int .i64 c) (u1 := .int .i64 a) HS2.out
    have q8 := p2.cell 0
    have q9 := p2.cell 1
    simp only [List.getElem?_toArray, List.getElem?_cons_zero, List.getElem?_cons_succ] at q8 q9
    refine bodyPost_ret (v := .tuple #[.slice none 0 0, .agg #[.int .i64 c, .int .i64 a]]) (by simp [results, Tryd.results11, go_sem, q8, q9]) rfl ?_
    unfold SplitP
    rw [HSP.out]
    exact ⟨⟨HC0.out, rfl⟩, below_new (below_new HB.out HG2.out (Nat.le_refl _)) j2 (by omega)⟩
theorem splitR_head : splitR headL = .ok [] 8 := by
  unfold splitR
  exact restR_end
/-- A block of bytes that reads as it was made, marked or not. -/
theorem lies_made (w : World) (xs : List UInt8) (fz : Nat × Nat) : Lies (w.alloc (.cells (cells (nums xs)).toArray 5 fz)) (w.heap.size + 1) (some ⟨w.heap.size, 0, none⟩) (cells (nums xs)) := fun i v hv => by
  refine ⟨w.heap.size, 0, rfl, by omega, ?_⟩
  rw [Nat.zero_add, cell_of_row _ w.heap.size i _ _ fz (heap_alloc_new w _)]
  simpa using hv
theorem head_cells : (cells (nums headL)).toArray = #[.int .u8 0, .int .u8 97, .int .u8 115, .int .u8 109, .int .u8 1, .int .u8 0, .int .u8 0, .int .u8 0] := by rfl
set_option maxHeartbeats 1000000 in
theorem awake_sect (w : World) (hT : Tabs w) : Calls Tryd.prog 4 #[] w fun e w' => e = .returned (.bool true) ∧ Below w.heap.size w w' := by
  have hl := lies_made w headL (8, 9)
  have hs := split_any (cap := 8) (A := some ⟨w.heap.size, 0, none⟩) (l := headL) (w := w.alloc (.cells (cells (nums headL)).toArray 5 (8, 9))) (by rw [size_box]; exact hl) (Nat.le_refl _) rfl (by simp [headL]) (hT.below (below_box w _))
  unfold SplitP at hs
  rw [splitR_head, head_cells] at hs
  have kc := fun (w : World) (C : Array Value) (n c : Nat) => Lib.run_convert_bytes_const (P := Tryd.prog) w 25 5 C n c Tryd.underlying25 Tryd.underlying5
  have heq : ∀ w : World, (binOp BinOp.eql 39 (.agg #[.int .i64 0, .int .i64 0]) (.agg #[.int .i64 0, .int .i64 0])).run Tryd.prog w = .ok (.bool true) w := fun _ => by kernel_rfl
  have HSp := Lib.hid (show Calls Tryd.prog 11 #[.slice (some ⟨w.heap.size, 0, none⟩) 8 8] _ _ from hs)
  clear hs hl
  go_enter Tryd.func4, Tryd.ntmps4
  go_wp2_with (go_at_call 11; go_must ((with_reducible refine HSp.out.mono ?_); rintro e w2 ⟨⟨A2, c2, rows, rfl, hm, -, -⟩, hb⟩; obtain rfl : rows = [] := List.map_eq_nil_iff.1 hm; have HB := Lib.hid hb; clear hb hm))
  go_ret
  exact ⟨rfl, ((below_box w _).trans (HB.out.mono (by simp))).alloc (by have := HB.out.size; simp at this ⊢; omega) _⟩
end Go.Proofs.YtofmjcpldmedaaaDoor

/- slices.Concat of three pieces; sect.size; single steps that make rows of slices. -/
namespace Go.Proofs.YtofmjcpldmedaaaDoor
open Go.RowKit
set_option linter.unusedVariables false
set_option maxRecDepth 100000

/-- Bytes that lie somewhere in this world; whose slice is nil only without room. -/
structure Pc (A : Option Addr) (c : Nat) (l : List UInt8) (w : World) : Prop where
  lies : Lies w w.heap.size A (cells (nums l))
  nil : A = none → c = 0
theorem Pc.below {A : Option Addr} {c : Nat} {l : List UInt8} {w w' : World} (h : Pc A c l w) (hb : Below w.heap.size w w') : Pc A c l w' := ⟨(h.lies.below hb (Nat.le_refl _)).more hb.size, h.nil⟩
theorem Pc.from {A : Option Addr} {c : Nat} {l : List UInt8} {w w' : World} {B : Nat} (h : Lies w B A (cells (nums l))) (hn : A = none → c = 0) (hB : B ≤ w.heap.size) (hb : Below w.heap.size w w') : Pc A c l w' := ⟨(h.below hb hB).more (Nat.le_trans hB hb.size), hn⟩
theorem Row.pc {w : World} {B : Nat} {v : Value} {xs : List UInt8} (h : Row w B v xs) : ∃ A c, v = .slice A xs.length c ∧ Pc A c xs w := by
  have h' := h
  obtain ⟨h1, h2⟩ := h
  obtain ⟨A, c, e, h3, h4, h5, _⟩ := lies_own h'
  refine ⟨A, c, e, h5, fun hA => ?_⟩
  rcases h2 with ⟨e2, _⟩ | ⟨g, cap, cur, e2, _⟩
  · rw [e] at e2
    injection e2
  · rw [e, hA] at e2
    injection e2 with e3
    cases e3
theorem Pc.room {A : Option Addr} {c : Nat} {l : List UInt8} {w : World} (h : Pc A c l w) : A = none → c = 0 := h.nil
set_option maxHeartbeats 1600000 in
/-- Concat of three pieces, of which one at least is not empty. -/
theorem concat3 {w : World} {g : Nat} {A1 A2 A3 : Option Addr} {c1 c2 c3 : Nat} {l1 l2 l3 : List UInt8} (hg : Whole w g 25 #[.slice A1 l1.length c1, .slice A2 l2.length c2, .slice A3 l3.length c3])
    (h1 : Pc A1 c1 l1 w) (h2 : Pc A2 c2 l2 w) (h3 : Pc A3 c3 l3 w) (n1 : 0 < l1.length + l2.length + l3.length) (n2 : l1.length + l2.length + l3.length ≤ 1000000) :
    Calls Tryd.prog 12 #[.slice (some ⟨g, 0, none⟩) 3 3] w (BytesL (l1 ++ l2 ++ l3) w) := by
  have g0 : w.cell? ⟨g, 0, none⟩ = some (.slice A1 l1.length c1) := hg.cell 0
  have g1 : w.cell? ⟨g, 1, none⟩ = some (.slice A2 l2.length c2) := hg.cell 1
  have g2 : w.cell? ⟨g, 2, none⟩ = some (.slice A3 l3.length c3) := hg.cell 2
  obtain ⟨m1, hm1⟩ : ∃ m, m = l1.length := ⟨_, rfl⟩
  obtain ⟨m2, hm2⟩ : ∃ m, m = l2.length := ⟨_, rfl⟩
  obtain ⟨m3, hm3⟩ : ∃ m, m = l3.length := ⟨_, rfl⟩
  rw [← hm1, ← hm2, ← hm3] at n1 n2
  rw [← hm1] at g0
  rw [← hm2] at g1
  rw [← hm3] at g2
  have HG := Lib.hid hg
  have H1 := Lib.hid h1
  have H2 := Lib.hid h2
  have H3 := Lib.hid h3
  have HM1 := Lib.hid hm1
  have HM2 := Lib.hid hm2
  have HM3 := Lib.hid hm3
  clear hg h1 h2 h3 hm1 hm2 hm3
  have HGr := Lib.hid (grow_any (m1 + m2 + m3) w (by omega) n2)
  go_enter Tryd.func12, Tryd.ntmps12
  go_wp2
  go_loop [3, 11] (fun s i => (s = .int .i64 0 ∧ i = .int .i64 0) ∨ (s = .int .i64 m1 ∧ i = .int .i64 1) ∨ (s = .int .i64 ((m1 + m2 : Nat) : Int) ∧ i = .int .i64 2) ∨ (s = .int .i64 ((m1 + m2 + m3 : Nat) : Int) ∧ i = .int .i64 3)) (fun _ i => 3 - (intOf i).toNat)
  case atStart => exact .inl ⟨rfl, rfl⟩
  case round =>
    rcases hrel with ⟨rfl, rfl⟩ | ⟨rfl, rfl⟩ | ⟨rfl, rfl⟩ | ⟨rfl, rfl⟩
    · go_wp2
      go_round
      case rel => exact .inr (.inl ⟨by go_num, rfl⟩)
      case measure => simp [intOf]
    · go_wp2
      go_round
      case rel => exact .inr (.inr (.inl ⟨by go_num, rfl⟩))
      case measure => simp [intOf]
    · go_wp2
      go_round
      case rel => exact .inr (.inr (.inr ⟨by go_num, rfl⟩))
      case measure => simp [intOf]
    · go_wp2_with (go_at_call 24; go_must (refine HGr.out.mono ?_; intro e w1 h; obtain ⟨v1, rfl, hr1, hb1⟩ := h; have HR1 := Lib.hid hr1; have HB1 := Lib.hid hb1; clear hr1 hb1))
      go_loopw [6, 27] (fun v i wr => Below w.heap.size w wr ∧ ((Row wr w.heap.size v [] ∧ i = .int .i64 0) ∨ (Row wr w.heap.size v l1 ∧ i = .int .i64 1) ∨ (Row wr w.heap.size v (l1 ++ l2) ∧ i = .int .i64 2) ∨ (Row wr w.heap.size v (l1 ++ l2 ++ l3) ∧ i = .int .i64 3))) (fun _ i _ => 3 - (intOf i).toNat)
      case atStart => exact ⟨HB1.out, .inl ⟨HR1.out, rfl⟩⟩
      case round =>
        obtain ⟨hb, ⟨hr, rfl⟩ | ⟨hr, rfl⟩ | ⟨hr, rfl⟩ | ⟨hr, rfl⟩⟩ := hrel
        · have c0 : wr.cell? ⟨g, 0, none⟩ = some (.slice A1 m1 c1) := by have := (HG.out.below hb).cell 0; rw [HM1.out]; exact this
          have HR := Lib.hid hr
          have HB := Lib.hid hb
          have hz := hb.size
          clear hr hb
          go_wp2_with (at_builtin; (refine row_any rfl _ _ rfl w.heap.size _ [] rfl HR.out A1 m1 c1 wr.heap.size l1 rfl HM1.out.symm (H1.out.below HB.out).lies H1.out.nil (by have := HM1.out; have := HM2.out; have := HM3.out; (try simp only [List.length_append, List.length_nil]); omega) hz ?_; intro v2 w2 hr2 hb2; have HR2 := Lib.hid hr2; have HB2 := Lib.hid hb2; clear hr2 hb2))
          go_roundw
          case rel => exact ⟨HB.out.trans HB2.out, .inr (.inl ⟨by simpa using HR2.out, rfl⟩)⟩
          case measure => simp [intOf]
        · have c0 : wr.cell? ⟨g, 1, none⟩ = some (.slice A2 m2 c2) := by have := (HG.out.below hb).cell 1; rw [HM2.out]; exact this
          have HR := Lib.hid hr
          have HB := Lib.hid hb
          have hz := hb.size
          clear hr hb
          go_wp2_with (at_builtin; (refine row_any rfl _ _ rfl w.heap.size _ l1 rfl HR.out A2 m2 c2 wr.heap.size l2 rfl HM2.out.symm (H2.out.below HB.out).lies H2.out.nil (by have := HM1.out; have := HM2.out; have := HM3.out; (try simp only [List.length_append, List.length_nil]); omega) hz ?_; intro v2 w2 hr2 hb2; have HR2 := Lib.hid hr2; have HB2 := Lib.hid hb2; clear hr2 hb2))
          go_roundw
          case rel => exact ⟨HB.out.trans HB2.out, .inr (.inr (.inl ⟨HR2.out, rfl⟩))⟩
          case measure => simp [intOf]
        · have c0 : wr.cell? ⟨g, 2, none⟩ = some (.slice A3 m3 c3) := by have := (HG.out.below hb).cell 2; rw [HM3.out]; exact this
          have HR := Lib.hid hr
          have HB := Lib.hid hb
          have hz := hb.size
          clear hr hb
          go_wp2_with (at_builtin; (refine row_any rfl _ _ rfl w.heap.size _ (l1 ++ l2) rfl HR.out A3 m3 c3 wr.heap.size l3 rfl HM3.out.symm (H3.out.below HB.out).lies H3.out.nil (by have := HM1.out; have := HM2.out; have := HM3.out; (try simp only [List.length_append, List.length_nil]); omega) hz ?_; intro v2 w2 hr2 hb2; have HR2 := Lib.hid hr2; have HB2 := Lib.hid hb2; clear hr2 hb2))
          go_roundw
          case rel => exact ⟨HB.out.trans HB2.out, .inr (.inr (.inr ⟨HR2.out, rfl⟩))⟩
          case measure => simp [intOf]
        · have HR := Lib.hid hr
          have HB := Lib.hid hb
          clear hr hb
          go_wp2
          go_ret
          exact ⟨_, rfl, HR.out, HB.out⟩
/-- sect.size. -/
theorem size_sect (n : Nat) (w : World) (hn : n ≤ 1000000) : Calls Tryd.prog 13 #[.int .i64 n] w fun e w' => ∃ A c, e = .returned (.slice A (lebL n).length c) ∧ Pc A c (lebL n) w' ∧ Below w.heap.size w w' := by
  have HU := Lib.hid (fun w => uintL (n : Int) w (by omega) (by omega))
  have hlen := lebL_len (n : Int) (by omega)
  have hpos : 0 < (lebL (n : Int)).length := by omega
  have wn : IntKind.u64.wrap (n : Int) = n := by simp [IntKind.wrap, IntKind.bits, IntKind.signed]; omega
  generalize lebL (n : Int) = y at *
  go_enter Tryd.func13, Tryd.ntmps13
  go_wp2_with (go_at_call 25; go_must ((with_reducible refine (HU.out _).mono ?_); intro e w1 h; obtain ⟨A1, k1, rfl, hl1, hb1⟩ := h; have HL1 := Lib.hid hl1; have HB1 := Lib.hid hb1; clear hl1 hb1))
  go_ret
  exact ⟨A1, k1, rfl, ⟨HL1.out, fun hA => absurd hpos (no_block HL1.out hA)⟩, HB1.out⟩
end Go.Proofs.YtofmjcpldmedaaaDoor

/- sect.Put. -/
namespace Go.Proofs.YtofmjcpldmedaaaDoor
open Go.RowKit
set_option linter.unusedVariables false
set_option maxRecDepth 100000

/-- A section's contents as they are written, and all its bytes. -/
noncomputable def innerL (x : Sct) : List UInt8 := if x.id.toNat = 0 then lebL x.name.length ++ x.name ++ x.body else x.body
noncomputable def sputL (x : Sct) : List UInt8 := [x.id] ++ lebL (innerL x).length ++ innerL x
def secV (x : Sct) (A : Option Addr) (c : Nat) : Value := .agg #[.int .u8 x.id.toNat, .string (S x.name), .slice A x.body.length c, .int .i64 x.off]
def secK (x : Sct) (A : Option Addr) (c : Nat) : Array Value := #[.int .u8 x.id.toNat, .string (S x.name), .slice A x.body.length c, .int .i64 x.off]
theorem innerL_len {x : Sct} {n : Nat} (h1 : x.name.length ≤ n) (h2 : x.body.length ≤ n) (hn : n ≤ 100000) : (innerL x).length ≤ 2 * n + 10 := by
  have h := lebL_len (x.name.length : Int) (by omega)
  unfold innerL
  split
  · simp only [List.length_append]; omega
  · omega
theorem sputL_len {x : Sct} {n : Nat} (h1 : x.name.length ≤ n) (h2 : x.body.length ≤ n) (hn : n ≤ 100000) : 2 ≤ (sputL x).length ∧ (sputL x).length ≤ 2 * n + 21 := by
  have h := innerL_len h1 h2 hn
  have h3 := lebL_len ((innerL x).length : Int) (by omega)
  unfold sputL
  simp only [List.length_append, List.length_singleton]
  omega
section
variable {w : World} {ops : Array Oper} {o : Oper} {a : Act} {K : Act → World → Prop} {Q : Exit → Act → World → Prop} {E : Prop}
theorem step_build1 (hgd : o.guard = none) (x : Operand) (ho : o.op = .buildSlice 25 1 #[(0, x)]) (c : UInt8) (hx : a.eval x = .int .u8 c.toNat)
    (h : ∀ g wa, w.heap.size ≤ g → Below w.heap.size w wa → Pc (some ⟨g, 0, none⟩) 1 [c] wa → K (a.put o.dst (.slice (some ⟨g, 0, none⟩) 1 1)) wa) :
    if Region.wanted o (yielded ops a.tmps) = true then Oper.wp Tryd.prog o a w K Q else E := by
  have hl := lies_made w [c] (0, 0)
  refine step_value (v := .slice (some ⟨w.heap.size, 0, none⟩) 1 1) (w' := w.alloc (.cells (cells (nums [c])).toArray 5)) hgd ?_ (h _ _ (Nat.le_refl _) (below_box w _) ⟨by rw [size_box]; exact hl, fun e => by cases e⟩)
  cases o
  subst ho
  clear h
  generalize a.eval = ev at hx ⊢
  simp [go_sem, hx, cells, nums]
theorem step_build3 (hgd : o.guard = none) (x0 x1 x2 : Operand) (ho : o.op = .buildSlice 56 3 #[(0, x0), (1, x1), (2, x2)]) {A0 A1 A2 : Option Addr} {n0 n1 n2 c0 c1 c2 : Nat} (h0 : a.eval x0 = .slice A0 n0 c0) (h1 : a.eval x1 = .slice A1 n1 c1) (h2 : a.eval x2 = .slice A2 n2 c2)
    (h : ∀ g wa, w.heap.size ≤ g → Below w.heap.size w wa → Whole wa g 25 #[.slice A0 n0 c0, .slice A1 n1 c1, .slice A2 n2 c2] → K (a.put o.dst (.slice (some ⟨g, 0, none⟩) 3 3)) wa) :
    if Region.wanted o (yielded ops a.tmps) = true then Oper.wp Tryd.prog o a w K Q else E := by
  refine step_value (v := .slice (some ⟨w.heap.size, 0, none⟩) 3 3) (w' := w.alloc (.cells #[.slice A0 n0 c0, .slice A1 n1 c1, .slice A2 n2 c2] 25)) hgd ?_ (h _ _ (Nat.le_refl _) (below_box w _) (Whole.made _ _ _))
  cases o
  subst ho
  clear h
  generalize a.eval = ev at h0 h1 h2 ⊢
  simp [go_sem, h0, h1, h2]
/-- []byte(s), as bytes that lie somewhere. -/
theorem step_convP (hgd : o.guard = none) (x : Operand) (ho : o.op = .convert 9 25 x) (l : List UInt8) (hx : a.eval x = .string (S l))
    (h : ∀ A cap wc, Below w.heap.size w wc → Pc A cap l wc → K (a.put o.dst (.slice A l.length cap)) wc) :
    if Region.wanted o (yielded ops a.tmps) = true then Oper.wp Tryd.prog o a w K Q else E :=
  step_conv hgd x ho l hx fun g cap wc _ _ _ hb hl => h _ _ _ hb ⟨hl, fun e => by cases e⟩
end
/-- []byte(s), behind the walk's own simplifying. -/
theorem upon_conv {o : Oper} {a : Act} {K : Act → World → Prop} {Q : Exit → Act → World → Prop} {W : World} {l : List UInt8} (h : ∀ A cap wc, Below W.heap.size W wc → Pc A cap l wc → K (a.put o.dst (.slice A l.length cap)) wc) :
    Oper.upon Tryd.prog o a K Q (((convert 9 25 (.string (S l))).run Tryd.prog W).andThen fun v w' => Result.ok (Next.value v) w') := by
  rw [conv_run (S l) W]
  have := h (some ⟨W.heap.size, 0, none⟩) (grownCap W (S l).size 0 5) (W.drew.alloc (convRow W (S l))) ((Below.refl _ _).drew.alloc (Nat.le_refl _) _) ⟨(conv_lies W l).more (by simp), fun e => by cases e⟩
  rw [← S_size] at this
  exact this
theorem hold2 {W W' : World} {X : Nat} {a b : Value} {W0 : World} (h : W.cell? ⟨X, 1, none⟩ = some a ∧ W.cell? ⟨X, 2, none⟩ = some b ∧ Below W0.heap.size W0 W) (hb : Below W.heap.size W W') : W'.cell? ⟨X, 1, none⟩ = some a ∧ W'.cell? ⟨X, 2, none⟩ = some b ∧ Below W0.heap.size W0 W' :=
  ⟨(hb.cell (p := ⟨X, 1, none⟩) (block_lt_of_cell h.1)).trans h.1, (hb.cell (p := ⟨X, 2, none⟩) (block_lt_of_cell h.2.1)).trans h.2.1, h.2.2.trans (hb.mono h.2.2.size)⟩
theorem hold1 {W W' : World} {X : Nat} {a : Value} {W0 : World} (h : W.cell? ⟨X, 0, none⟩ = some a ∧ Below W0.heap.size W0 W) (hb : Below W.heap.size W W') : W'.cell? ⟨X, 0, none⟩ = some a ∧ Below W0.heap.size W0 W' :=
  ⟨(hb.cell (p := ⟨X, 0, none⟩) (block_lt_of_cell h.1)).trans h.1, h.2.trans (hb.mono h.2.size)⟩
set_option maxHeartbeats 1600000 in
theorem put_other (x : Sct) (A : Option Addr) (c : Nat) (w : World) (hp : Pc A c x.body w) (hn : x.name.length ≤ 100000) (hb : x.body.length ≤ 100000) (h0 : ¬ x.id.toNat = 0) :
    Calls Tryd.prog 5 #[secV x A c] w (BytesL (sputL x) w) := by
  have hW := Whole.made w 27 (secK x A c)
  have hb0 := below_box w (.cells (secK x A c) 27)
  have k0 := hW.cell 0
  have k1 := hW.cell 1
  have k2 := hW.cell 2
  simp only [secK, List.getElem?_toArray, List.getElem?_cons_zero, List.getElem?_cons_succ] at k0 k1 k2
  have HP0 := Lib.hid (hp.below hb0)
  have hsl : (sputL x).length ≤ 400000 := by have := (sputL_len hn hb (by omega)).2; omega
  have e0 : ((x.id.toNat : Int) == 0) = false := by simp; omega
  have hin : innerL x = x.body := by unfold innerL; rw [if_neg h0]
  have hsp : sputL x = [x.id] ++ lebL x.body.length ++ x.body := by unfold sputL; rw [hin]
  have HSP := Lib.hid hsp
  have hs3 : ([x.id] : List UInt8).length + (lebL (x.body.length : Int)).length + x.body.length ≤ 400000 := by rw [hsp, List.length_append, List.length_append] at hsl; exact hsl
  have HS3 := Lib.hid hs3
  clear h0 hin hsp hsl hs3 hW hp
  unfold secV
  unfold secK at HP0 hb0
  go_enter Tryd.func5, Tryd.ntmps5
  go_upto_region 4 with fail
  generalize w.alloc (.cells #[.int .u8 x.id.toNat, .string (S x.name), .slice A x.body.length c, .int .i64 x.off] 27) = W0 at *
  have HBE := Lib.hid hb0
  clear hb0 k1 k2
  refine wp_region_noPanic ?_
  refine wp_region_held_drew (S := fun W => W.cell? ⟨w.heap.size, 0, none⟩ = some (.int .u8 x.id.toNat) ∧ Below W0.heap.size W0 W) (by kernel_rfl) ⟨k0, (Below.refl _ _).drew⟩ (fun hHeld => ?_)
  (refine heldTake (i := 0) (oi := { dst := some 20, op := Op.fieldAddr 27 (Operand.tmp 1) 0, type := 0, pos := "sect.go:106", after := #[], guard := none }) (v := ?_) rfl (by kernel_rfl) (by kernel_rfl) (by kernel_rfl) (by assumption) ?_ ?_; rotate_left; focus (refine .inl ⟨by kernel_rfl, ?_⟩; intro w hSw; (try dsimp only at hSw); go_simp; (try with_reducible rfl)); (try simp only [Act.put, List.setIfInBounds_toArray, List.set_cons_zero, List.set_cons_succ]))
  (refine heldTake (i := 1) (oi := { dst := some 21, op := Op.load 5 (Operand.tmp 20), type := 5, pos := "sect.go:106", after := #[{ on := 0, ground := Ground.data }], guard := none }) (v := ?_) rfl (by kernel_rfl) (by kernel_rfl) (by kernel_rfl) (by assumption) ?_ ?_; rotate_left; focus (refine .inl ⟨by kernel_rfl, ?_⟩; intro w hSw; (try dsimp only at hSw); go_simp; (try with_reducible rfl)); (try simp only [Act.put, List.setIfInBounds_toArray, List.set_cons_zero, List.set_cons_succ]))
  (refine heldTake (i := 3) (oi := { dst := some 23, op := Op.move (Operand.tmp 3), type := 25, pos := "sect.go:106", after := #[], guard := none }) (v := ?_) rfl (by kernel_rfl) (by kernel_rfl) (by kernel_rfl) (by assumption) ?_ ?_; rotate_left; focus (refine .inl ⟨by kernel_rfl, ?_⟩; intro w hSw; (try dsimp only at hSw); go_simp; (try with_reducible rfl)); (try simp only [Act.put, List.setIfInBounds_toArray, List.set_cons_zero, List.set_cons_succ]))
  (refine heldTake (i := 4) (oi := { dst := some 24, op := Op.call { callee := Callee.builtin Builtin.len, args := #[Operand.tmp 23], argTypes := #[25] }, type := 3, pos := "sect.go:106", after := #[{ on := 3, ground := Ground.data }], guard := none }) (v := ?_) rfl (by kernel_rfl) (by kernel_rfl) (by kernel_rfl) (by assumption) ?_ ?_; rotate_left; focus (refine .inl ⟨by kernel_rfl, ?_⟩; intro w hSw; (try dsimp only at hSw); go_simp; (try with_reducible rfl)); (try simp only [Act.put, List.setIfInBounds_toArray, List.set_cons_zero, List.set_cons_succ]))
  (refine heldTake (i := 6) (oi := { dst := some 26, op := Op.move (Operand.tmp 3), type := 25, pos := "sect.go:106", after := #[], guard := none }) (v := ?_) rfl (by kernel_rfl) (by kernel_rfl) (by kernel_rfl) (by assumption) ?_ ?_; rotate_left; focus (refine .inl ⟨by kernel_rfl, ?_⟩; intro w hSw; (try dsimp only at hSw); go_simp; (try with_reducible rfl)); (try simp only [Act.put, List.setIfInBounds_toArray, List.set_cons_zero, List.set_cons_succ]))
  refine wpAnyH_ready (rs := [2, 5]) (by kernel_rfl) (by simp) ?_
  refine (AllReadyH.cons (o := { dst := some 22, op := Op.buildSlice 25 1 #[(0, Operand.tmp 21)], type := 25, pos := "sect.go:106", after := #[{ on := 1, ground := Ground.data }], guard := none }) rfl (fun K hK => ?_) (AllReadyH.cons (o := { dst := some 25, op := Op.call { callee := Callee.value (Operand.func 13), args := #[Operand.tmp 24], argTypes := #[3] }, type := 25, pos := "sect.go:106", after := #[{ on := 4, ground := Ground.data }], guard := none }) rfl (fun K hK => ?_) AllReadyH.nil))
  · refine step_build1 rfl _ rfl x.id rfl ?_; intro g2 wa2 hg2 hb2 hp2; have HB2 := Lib.hid hb2; have HP2 := Lib.hid hp2; clear hb2 hp2
    refine hK.out _ _ (hold1 hHeld HB2.out) (fun hHeld2 => ?_)
    clear hK K hHeld
    (try simp only [Act.put, List.setIfInBounds_toArray, List.set_cons_zero, List.set_cons_succ])
    refine wpAnyH_ready (rs := [5]) (by kernel_rfl) (by simp) ?_
    refine (AllReadyH.cons (o := { dst := some 25, op := Op.call { callee := Callee.value (Operand.func 13), args := #[Operand.tmp 24], argTypes := #[3] }, type := 25, pos := "sect.go:106", after := #[{ on := 4, ground := Ground.data }], guard := none }) rfl (fun K hK => ?_) AllReadyH.nil)
    go_simp
    (go_at_call 13; (with_reducible refine (size_sect x.body.length _ (by have := HS3.out; omega)).mono ?_); rintro e w5 ⟨A5, c5, rfl, hp5, hb5⟩; have HB5 := Lib.hid hb5; have HP5 := Lib.hid hp5; clear hb5 hp5)
    refine hK.out _ _ (hold1 hHeld2 HB5.out) (fun hHeld5 => ?_)
    clear hK K hHeld2
    (try simp only [Act.put, List.setIfInBounds_toArray, List.set_cons_zero, List.set_cons_succ])
    refine wpAnyH_ready (rs := [7]) (by kernel_rfl) (by simp) ?_
    refine (AllReadyH.cons (o := { dst := some 27, op := Op.buildSlice 56 3 #[(0, Operand.tmp 22), (1, Operand.tmp 25), (2, Operand.tmp 26)], type := 56, pos := "sect.go:106", after := #[{ on := 2, ground := Ground.data }, { on := 5, ground := Ground.data }, { on := 6, ground := Ground.data }], guard := none }) rfl (fun K hK => ?_) AllReadyH.nil)
    refine step_build3 rfl _ _ _ rfl rfl rfl rfl ?_; intro g7 wa7 hg7 hb7 hw7; have HB7 := Lib.hid hb7; have HW7 := Lib.hid hw7; clear hb7 hw7
    refine hK.out _ _ (hold1 hHeld5 HB7.out) (fun hHeld7 => ?_)
    clear hK K hHeld5
    (try simp only [Act.put, List.setIfInBounds_toArray, List.set_cons_zero, List.set_cons_succ])
    refine wpAnyH_ready (rs := [8]) (by kernel_rfl) (by simp) ?_
    refine (AllReadyH.cons (o := { dst := some 28, op := Op.call { callee := Callee.value (Operand.func 12), args := #[Operand.tmp 27], argTypes := #[56] }, type := 25, pos := "sect.go:106", after := #[{ on := 7, ground := Ground.data }, { on := 5, ground := Ground.chain }], guard := none }) rfl (fun K hK => ?_) AllReadyH.nil)
    go_simp
    (go_at_call 12; (with_reducible refine (concat3 (l1 := [x.id]) HW7.out (((((HP2.out).below HB5.out)).below HB7.out)) (((HP5.out).below HB7.out)) (HP0.out.below hHeld7.2) (by have : ([x.id] : List UInt8).length = 1 := rfl; omega) (by have := HS3.out; omega)).mono ?_); rintro e w8 ⟨v8, rfl, hr8, hb8⟩; have hz8 := Nat.le_trans HBE.out.size hHeld7.2.size; have HB8 := Lib.hid hb8; have HR8 := Lib.hid hr8; clear hb8 hr8)
    refine hK.out _ _ (hold1 hHeld7 HB8.out) (fun hHeld8 => ?_)
    clear hK K hHeld7
    (try simp only [Act.put, List.setIfInBounds_toArray, List.set_cons_zero, List.set_cons_succ])
    (refine heldTake (i := 9) (oi := { dst := some 2, op := Op.assign (Operand.tmp 28), type := 25, pos := "sect.go:106", after := #[{ on := 8, ground := Ground.data }, { on := 8, ground := Ground.chain }, { on := 0, ground := Ground.phase }, { on := 1, ground := Ground.phase }, { on := 2, ground := Ground.phase }, { on := 3, ground := Ground.phase }, { on := 4, ground := Ground.phase }, { on := 5, ground := Ground.phase }, { on := 6, ground := Ground.phase }, { on := 7, ground := Ground.phase }, { on := 8, ground := Ground.phase }], guard := none }) (v := ?_) rfl (by kernel_rfl) (by kernel_rfl) (by kernel_rfl) (by assumption) ?_ ?_; rotate_left; focus (refine .inl ⟨by kernel_rfl, ?_⟩; intro w hSw; (try dsimp only at hSw); go_simp; (try with_reducible rfl)); (try simp only [Act.put, List.setIfInBounds_toArray, List.set_cons_zero, List.set_cons_succ]))
    refine wpAnyH_done (by kernel_rfl) ?_ _
    refine NoPanic.normal ?_
    have hLast := hHeld8
    clear hHeld8
    go_wp2
    go_ret
    exact ⟨_, rfl, by rw [HSP.out]; exact HR8.out.mono hz8, HBE.out.trans (hLast.2.mono HBE.out.size)⟩
  · go_simp
    (go_at_call 13; (with_reducible refine (size_sect x.body.length _ (by have := HS3.out; omega)).mono ?_); rintro e w5 ⟨A5, c5, rfl, hp5, hb5⟩; have HB5 := Lib.hid hb5; have HP5 := Lib.hid hp5; clear hb5 hp5)
    refine hK.out _ _ (hold1 hHeld HB5.out) (fun hHeld5 => ?_)
    clear hK K hHeld
    (try simp only [Act.put, List.setIfInBounds_toArray, List.set_cons_zero, List.set_cons_succ])
    refine wpAnyH_ready (rs := [2]) (by kernel_rfl) (by simp) ?_
    refine (AllReadyH.cons (o := { dst := some 22, op := Op.buildSlice 25 1 #[(0, Operand.tmp 21)], type := 25, pos := "sect.go:106", after := #[{ on := 1, ground := Ground.data }], guard := none }) rfl (fun K hK => ?_) AllReadyH.nil)
    refine step_build1 rfl _ rfl x.id rfl ?_; intro g2 wa2 hg2 hb2 hp2; have HB2 := Lib.hid hb2; have HP2 := Lib.hid hp2; clear hb2 hp2
    refine hK.out _ _ (hold1 hHeld5 HB2.out) (fun hHeld2 => ?_)
    clear hK K hHeld5
    (try simp only [Act.put, List.setIfInBounds_toArray, List.set_cons_zero, List.set_cons_succ])
    refine wpAnyH_ready (rs := [7]) (by kernel_rfl) (by simp) ?_
    refine (AllReadyH.cons (o := { dst := some 27, op := Op.buildSlice 56 3 #[(0, Operand.tmp 22), (1, Operand.tmp 25), (2, Operand.tmp 26)], type := 56, pos := "sect.go:106", after := #[{ on := 2, ground := Ground.data }, { on := 5, ground := Ground.data }, { on := 6, ground := Ground.data }], guard := none }) rfl (fun K hK => ?_) AllReadyH.nil)
    refine step_build3 rfl _ _ _ rfl rfl rfl rfl ?_; intro g7 wa7 hg7 hb7 hw7; have HB7 := Lib.hid hb7; have HW7 := Lib.hid hw7; clear hb7 hw7
    refine hK.out _ _ (hold1 hHeld2 HB7.out) (fun hHeld7 => ?_)
    clear hK K hHeld2
    (try simp only [Act.put, List.setIfInBounds_toArray, List.set_cons_zero, List.set_cons_succ])
    refine wpAnyH_ready (rs := [8]) (by kernel_rfl) (by simp) ?_
    refine (AllReadyH.cons (o := { dst := some 28, op := Op.call { callee := Callee.value (Operand.func 12), args := #[Operand.tmp 27], argTypes := #[56] }, type := 25, pos := "sect.go:106", after := #[{ on := 7, ground := Ground.data }, { on := 5, ground := Ground.chain }], guard := none }) rfl (fun K hK => ?_) AllReadyH.nil)
    go_simp
    (go_at_call 12; (with_reducible refine (concat3 (l1 := [x.id]) HW7.out (((HP2.out).below HB7.out)) (((((HP5.out).below HB2.out)).below HB7.out)) (HP0.out.below hHeld7.2) (by have : ([x.id] : List UInt8).length = 1 := rfl; omega) (by have := HS3.out; omega)).mono ?_); rintro e w8 ⟨v8, rfl, hr8, hb8⟩; have hz8 := Nat.le_trans HBE.out.size hHeld7.2.size; have HB8 := Lib.hid hb8; have HR8 := Lib.hid hr8; clear hb8 hr8)
    refine hK.out _ _ (hold1 hHeld7 HB8.out) (fun hHeld8 => ?_)
    clear hK K hHeld7
    (try simp only [Act.put, List.setIfInBounds_toArray, List.set_cons_zero, List.set_cons_succ])
    (refine heldTake (i := 9) (oi := { dst := some 2, op := Op.assign (Operand.tmp 28), type := 25, pos := "sect.go:106", after := #[{ on := 8, ground := Ground.data }, { on := 8, ground := Ground.chain }, { on := 0, ground := Ground.phase }, { on := 1, ground := Ground.phase }, { on := 2, ground := Ground.phase }, { on := 3, ground := Ground.phase }, { on := 4, ground := Ground.phase }, { on := 5, ground := Ground.phase }, { on := 6, ground := Ground.phase }, { on := 7, ground := Ground.phase }, { on := 8, ground := Ground.phase }], guard := none }) (v := ?_) rfl (by kernel_rfl) (by kernel_rfl) (by kernel_rfl) (by assumption) ?_ ?_; rotate_left; focus (refine .inl ⟨by kernel_rfl, ?_⟩; intro w hSw; (try dsimp only at hSw); go_simp; (try with_reducible rfl)); (try simp only [Act.put, List.setIfInBounds_toArray, List.set_cons_zero, List.set_cons_succ]))
    refine wpAnyH_done (by kernel_rfl) ?_ _
    refine NoPanic.normal ?_
    have hLast := hHeld8
    clear hHeld8
    go_wp2
    go_ret
    exact ⟨_, rfl, by rw [HSP.out]; exact HR8.out.mono hz8, HBE.out.trans (hLast.2.mono HBE.out.size)⟩
set_option maxHeartbeats 1600000 in
theorem put_custom (x : Sct) (A : Option Addr) (c : Nat) (w : World) (hp : Pc A c x.body w) (hn : x.name.length ≤ 100000) (hb : x.body.length ≤ 100000) (h0 : x.id.toNat = 0) :
    Calls Tryd.prog 5 #[secV x A c] w (BytesL (sputL x) w) := by
  have hW := Whole.made w 27 (secK x A c)
  have hb0 := below_box w (.cells (secK x A c) 27)
  have k0 := hW.cell 0
  have k1 := hW.cell 1
  have k2 := hW.cell 2
  simp only [secK, List.getElem?_toArray, List.getElem?_cons_zero, List.getElem?_cons_succ] at k0 k1 k2
  have HP0 := Lib.hid (hp.below hb0)
  have hsl : (sputL x).length ≤ 400000 := by have := (sputL_len hn hb (by omega)).2; omega
  have e0 : ((x.id.toNat : Int) == 0) = true := by simp; omega
  have hin : innerL x = lebL x.name.length ++ x.name ++ x.body := by unfold innerL; rw [if_pos h0]
  have hl0 := innerL_len hn hb (by omega)
  have hs3 : (lebL (x.name.length : Int)).length + x.name.length + x.body.length ≤ 400000 := by rw [hin, List.length_append, List.length_append] at hl0; omega
  obtain ⟨L, hL⟩ : ∃ L, L = innerL x := ⟨_, rfl⟩
  have hsp : sputL x = [x.id] ++ lebL L.length ++ L := by unfold sputL; rw [hL]
  have hs4 : ([x.id] : List UInt8).length + (lebL (L.length : Int)).length + L.length ≤ 400000 := by rw [hsp, List.length_append, List.length_append] at hsl; exact hsl
  have HIN := Lib.hid (hL.trans hin)
  have HSP := Lib.hid hsp
  have HS3 := Lib.hid hs3
  have HS4 := Lib.hid hs4
  have hns : 0 < 1 + x.name.length := by omega
  have hsz := S_size x.name
  clear h0 hin hsp hsl hs3 hW hp hL hs4 hl0
  unfold secV
  unfold secK at HP0 hb0
  go_enter Tryd.func5, Tryd.ntmps5
  go_upto_region 3 with fail
  generalize w.alloc (.cells #[.int .u8 x.id.toNat, .string (S x.name), .slice A x.body.length c, .int .i64 x.off] 27) = W0 at *
  have HBE := Lib.hid hb0
  clear hb0
  go_cut [3] (fun s W => ∃ A c, s = .slice A L.length c ∧ Pc A c L W ∧ Below W0.heap.size W0 W)
  case first =>
    refine wp_region_noPanic ?_
    refine wp_region_held_drew (S := fun W => W.cell? ⟨w.heap.size, 1, none⟩ = some (.string (S x.name)) ∧ W.cell? ⟨w.heap.size, 2, none⟩ = some (.slice A x.body.length c) ∧ Below W0.heap.size W0 W) (by kernel_rfl) ⟨k1, k2, (Below.refl _ _).drew⟩ (fun hHeld => ?_)
    (refine heldTake (i := 0) (oi := { dst := some 9, op := Op.fieldAddr 27 (Operand.tmp 1) 1, type := 0, pos := "sect.go:104", after := #[], guard := none }) (v := ?_) rfl (by kernel_rfl) (by kernel_rfl) (by kernel_rfl) (by assumption) ?_ ?_; rotate_left; focus (refine .inl ⟨by kernel_rfl, ?_⟩; intro w hSw; (try dsimp only at hSw); go_simp; (try with_reducible rfl)); (try simp only [Act.put, List.setIfInBounds_toArray, List.set_cons_zero, List.set_cons_succ]))
    (refine heldTake (i := 1) (oi := { dst := some 10, op := Op.load 9 (Operand.tmp 9), type := 9, pos := "sect.go:104", after := #[{ on := 0, ground := Ground.data }], guard := none }) (v := ?_) rfl (by kernel_rfl) (by kernel_rfl) (by kernel_rfl) (by assumption) ?_ ?_; rotate_left; focus (refine .inl ⟨by kernel_rfl, ?_⟩; intro w hSw; (try dsimp only at hSw); go_simp; (try with_reducible rfl)); (try simp only [Act.put, List.setIfInBounds_toArray, List.set_cons_zero, List.set_cons_succ]))
    (refine heldTake (i := 2) (oi := { dst := some 11, op := Op.call { callee := Callee.builtin Builtin.len, args := #[Operand.tmp 10], argTypes := #[9] }, type := 3, pos := "sect.go:104", after := #[{ on := 1, ground := Ground.data }], guard := none }) (v := ?_) rfl (by kernel_rfl) (by kernel_rfl) (by kernel_rfl) (by assumption) ?_ ?_; rotate_left; focus (refine .inl ⟨by kernel_rfl, ?_⟩; intro w hSw; (try dsimp only at hSw); go_simp; (try with_reducible rfl)); (try simp only [Act.put, List.setIfInBounds_toArray, List.set_cons_zero, List.set_cons_succ]))
    (refine heldTake (i := 4) (oi := { dst := some 13, op := Op.fieldAddr 27 (Operand.tmp 1) 1, type := 0, pos := "sect.go:104", after := #[], guard := none }) (v := ?_) rfl (by kernel_rfl) (by kernel_rfl) (by kernel_rfl) (by assumption) ?_ ?_; rotate_left; focus (refine .inl ⟨by kernel_rfl, ?_⟩; intro w hSw; (try dsimp only at hSw); go_simp; (try with_reducible rfl)); (try simp only [Act.put, List.setIfInBounds_toArray, List.set_cons_zero, List.set_cons_succ]))
    (refine heldTake (i := 5) (oi := { dst := some 14, op := Op.load 9 (Operand.tmp 13), type := 9, pos := "sect.go:104", after := #[{ on := 4, ground := Ground.data }], guard := none }) (v := ?_) rfl (by kernel_rfl) (by kernel_rfl) (by kernel_rfl) (by assumption) ?_ ?_; rotate_left; focus (refine .inl ⟨by kernel_rfl, ?_⟩; intro w hSw; (try dsimp only at hSw); go_simp; (try with_reducible rfl)); (try simp only [Act.put, List.setIfInBounds_toArray, List.set_cons_zero, List.set_cons_succ]))
    (refine heldTake (i := 7) (oi := { dst := some 16, op := Op.fieldAddr 27 (Operand.tmp 1) 2, type := 0, pos := "sect.go:104", after := #[], guard := none }) (v := ?_) rfl (by kernel_rfl) (by kernel_rfl) (by kernel_rfl) (by assumption) ?_ ?_; rotate_left; focus (refine .inl ⟨by kernel_rfl, ?_⟩; intro w hSw; (try dsimp only at hSw); go_simp; (try with_reducible rfl)); (try simp only [Act.put, List.setIfInBounds_toArray, List.set_cons_zero, List.set_cons_succ]))
    (refine heldTake (i := 8) (oi := { dst := some 17, op := Op.load 25 (Operand.tmp 16), type := 25, pos := "sect.go:104", after := #[{ on := 7, ground := Ground.data }], guard := none }) (v := ?_) rfl (by kernel_rfl) (by kernel_rfl) (by kernel_rfl) (by assumption) ?_ ?_; rotate_left; focus (refine .inl ⟨by kernel_rfl, ?_⟩; intro w hSw; (try dsimp only at hSw); go_simp; (try with_reducible rfl)); (try simp only [Act.put, List.setIfInBounds_toArray, List.set_cons_zero, List.set_cons_succ]))
    refine wpAnyH_ready (rs := [3, 6]) (by kernel_rfl) (by simp) ?_
    refine (AllReadyH.cons (o := { dst := some 12, op := Op.call { callee := Callee.value (Operand.func 13), args := #[Operand.tmp 11], argTypes := #[3] }, type := 25, pos := "sect.go:104", after := #[{ on := 2, ground := Ground.data }], guard := none }) rfl (fun K hK => ?_) (AllReadyH.cons (o := { dst := some 15, op := Op.convert 9 25 (Operand.tmp 14), type := 25, pos := "sect.go:104", after := #[{ on := 5, ground := Ground.data }], guard := none }) rfl (fun K hK => ?_) AllReadyH.nil))
    · go_simp
      (go_at_call 13; (with_reducible refine (size_sect x.name.length _ (by have := HS3.out; omega)).mono ?_); rintro e w3 ⟨A3, c3, rfl, hp3, hb3⟩; have HB3 := Lib.hid hb3; have HP3 := Lib.hid hp3; clear hb3 hp3)
      refine hK.out _ _ (hold2 hHeld HB3.out) (fun hHeld3 => ?_)
      clear hK K hHeld
      (try simp only [Act.put, List.setIfInBounds_toArray, List.set_cons_zero, List.set_cons_succ])
      refine wpAnyH_ready (rs := [6]) (by kernel_rfl) (by simp) ?_
      refine (AllReadyH.cons (o := { dst := some 15, op := Op.convert 9 25 (Operand.tmp 14), type := 25, pos := "sect.go:104", after := #[{ on := 5, ground := Ground.data }], guard := none }) rfl (fun K hK => ?_) AllReadyH.nil)
      go_simp; refine upon_conv ?_; intro A6 c6 wa6 hb6 hp6; have HB6 := Lib.hid hb6; have HP6 := Lib.hid hp6; clear hb6 hp6
      refine hK.out _ _ (hold2 hHeld3 HB6.out) (fun hHeld6 => ?_)
      clear hK K hHeld3
      (try simp only [Act.put, List.setIfInBounds_toArray, List.set_cons_zero, List.set_cons_succ])
      refine wpAnyH_ready (rs := [9]) (by kernel_rfl) (by simp) ?_
      refine (AllReadyH.cons (o := { dst := some 18, op := Op.buildSlice 56 3 #[(0, Operand.tmp 12), (1, Operand.tmp 15), (2, Operand.tmp 17)], type := 56, pos := "sect.go:104", after := #[{ on := 3, ground := Ground.data }, { on := 6, ground := Ground.data }, { on := 8, ground := Ground.data }], guard := none }) rfl (fun K hK => ?_) AllReadyH.nil)
      refine step_build3 rfl _ _ _ rfl rfl rfl rfl ?_; intro g7 wa7 hg7 hb7 hw7; have HB9 := Lib.hid hb7; have HW9 := Lib.hid hw7; clear hb7 hw7
      refine hK.out _ _ (hold2 hHeld6 HB9.out) (fun hHeld9 => ?_)
      clear hK K hHeld6
      (try simp only [Act.put, List.setIfInBounds_toArray, List.set_cons_zero, List.set_cons_succ])
      refine wpAnyH_ready (rs := [10]) (by kernel_rfl) (by simp) ?_
      refine (AllReadyH.cons (o := { dst := some 19, op := Op.call { callee := Callee.value (Operand.func 12), args := #[Operand.tmp 18], argTypes := #[56] }, type := 25, pos := "sect.go:104", after := #[{ on := 9, ground := Ground.data }, { on := 3, ground := Ground.chain }], guard := none }) rfl (fun K hK => ?_) AllReadyH.nil)
      go_simp
      (go_at_call 12; (with_reducible refine (concat3 HW9.out (((((HP3.out).below HB6.out)).below HB9.out)) (((HP6.out).below HB9.out)) (HP0.out.below hHeld9.2.2) (by have := lebL_len (x.name.length : Int) (by omega); omega) (by have := HS3.out; omega)).mono ?_); rintro e w8 ⟨v8, rfl, hr8, hb8⟩; rw [← HIN.out] at hr8; obtain ⟨A8, c8, rfl, hp8⟩ := hr8.pc; have HB10 := Lib.hid hb8; have HP8 := Lib.hid hp8; clear hb8 hr8 hp8)
      refine hK.out _ _ (hold2 hHeld9 HB10.out) (fun hHeld10 => ?_)
      clear hK K hHeld9
      (try simp only [Act.put, List.setIfInBounds_toArray, List.set_cons_zero, List.set_cons_succ])
      (refine heldTake (i := 11) (oi := { dst := some 3, op := Op.assign (Operand.tmp 19), type := 25, pos := "sect.go:104", after := #[{ on := 10, ground := Ground.data }, { on := 10, ground := Ground.chain }, { on := 0, ground := Ground.phase }, { on := 1, ground := Ground.phase }, { on := 2, ground := Ground.phase }, { on := 3, ground := Ground.phase }, { on := 4, ground := Ground.phase }, { on := 5, ground := Ground.phase }, { on := 6, ground := Ground.phase }, { on := 7, ground := Ground.phase }, { on := 8, ground := Ground.phase }, { on := 9, ground := Ground.phase }, { on := 10, ground := Ground.phase }], guard := none }) (v := ?_) rfl (by kernel_rfl) (by kernel_rfl) (by kernel_rfl) (by assumption) ?_ ?_; rotate_left; focus (refine .inl ⟨by kernel_rfl, ?_⟩; intro w hSw; (try dsimp only at hSw); go_simp; (try with_reducible rfl)); (try simp only [Act.put, List.setIfInBounds_toArray, List.set_cons_zero, List.set_cons_succ]))
      refine wpAnyH_done (by kernel_rfl) ?_ _
      refine NoPanic.normal ?_
      have hLast := hHeld10
      clear hHeld10
      go_wp2
      go_meet
      exact ⟨A8, c8, rfl, HP8.out, hLast.2.2⟩
    · go_simp; refine upon_conv ?_; intro A6 c6 wa6 hb6 hp6; have HB6 := Lib.hid hb6; have HP6 := Lib.hid hp6; clear hb6 hp6
      refine hK.out _ _ (hold2 hHeld HB6.out) (fun hHeld6 => ?_)
      clear hK K hHeld
      (try simp only [Act.put, List.setIfInBounds_toArray, List.set_cons_zero, List.set_cons_succ])
      refine wpAnyH_ready (rs := [3]) (by kernel_rfl) (by simp) ?_
      refine (AllReadyH.cons (o := { dst := some 12, op := Op.call { callee := Callee.value (Operand.func 13), args := #[Operand.tmp 11], argTypes := #[3] }, type := 25, pos := "sect.go:104", after := #[{ on := 2, ground := Ground.data }], guard := none }) rfl (fun K hK => ?_) AllReadyH.nil)
      go_simp
      (go_at_call 13; (with_reducible refine (size_sect x.name.length _ (by have := HS3.out; omega)).mono ?_); rintro e w3 ⟨A3, c3, rfl, hp3, hb3⟩; have HB3 := Lib.hid hb3; have HP3 := Lib.hid hp3; clear hb3 hp3)
      refine hK.out _ _ (hold2 hHeld6 HB3.out) (fun hHeld3 => ?_)
      clear hK K hHeld6
      (try simp only [Act.put, List.setIfInBounds_toArray, List.set_cons_zero, List.set_cons_succ])
      refine wpAnyH_ready (rs := [9]) (by kernel_rfl) (by simp) ?_
      refine (AllReadyH.cons (o := { dst := some 18, op := Op.buildSlice 56 3 #[(0, Operand.tmp 12), (1, Operand.tmp 15), (2, Operand.tmp 17)], type := 56, pos := "sect.go:104", after := #[{ on := 3, ground := Ground.data }, { on := 6, ground := Ground.data }, { on := 8, ground := Ground.data }], guard := none }) rfl (fun K hK => ?_) AllReadyH.nil)
      refine step_build3 rfl _ _ _ rfl rfl rfl rfl ?_; intro g7 wa7 hg7 hb7 hw7; have HB9 := Lib.hid hb7; have HW9 := Lib.hid hw7; clear hb7 hw7
      refine hK.out _ _ (hold2 hHeld3 HB9.out) (fun hHeld9 => ?_)
      clear hK K hHeld3
      (try simp only [Act.put, List.setIfInBounds_toArray, List.set_cons_zero, List.set_cons_succ])
      refine wpAnyH_ready (rs := [10]) (by kernel_rfl) (by simp) ?_
      refine (AllReadyH.cons (o := { dst := some 19, op := Op.call { callee := Callee.value (Operand.func 12), args := #[Operand.tmp 18], argTypes := #[56] }, type := 25, pos := "sect.go:104", after := #[{ on := 9, ground := Ground.data }, { on := 3, ground := Ground.chain }], guard := none }) rfl (fun K hK => ?_) AllReadyH.nil)
      go_simp
      (go_at_call 12; (with_reducible refine (concat3 HW9.out (((HP3.out).below HB9.out)) (((((HP6.out).below HB3.out)).below HB9.out)) (HP0.out.below hHeld9.2.2) (by have := lebL_len (x.name.length : Int) (by omega); omega) (by have := HS3.out; omega)).mono ?_); rintro e w8 ⟨v8, rfl, hr8, hb8⟩; rw [← HIN.out] at hr8; obtain ⟨A8, c8, rfl, hp8⟩ := hr8.pc; have HB10 := Lib.hid hb8; have HP8 := Lib.hid hp8; clear hb8 hr8 hp8)
      refine hK.out _ _ (hold2 hHeld9 HB10.out) (fun hHeld10 => ?_)
      clear hK K hHeld9
      (try simp only [Act.put, List.setIfInBounds_toArray, List.set_cons_zero, List.set_cons_succ])
      (refine heldTake (i := 11) (oi := { dst := some 3, op := Op.assign (Operand.tmp 19), type := 25, pos := "sect.go:104", after := #[{ on := 10, ground := Ground.data }, { on := 10, ground := Ground.chain }, { on := 0, ground := Ground.phase }, { on := 1, ground := Ground.phase }, { on := 2, ground := Ground.phase }, { on := 3, ground := Ground.phase }, { on := 4, ground := Ground.phase }, { on := 5, ground := Ground.phase }, { on := 6, ground := Ground.phase }, { on := 7, ground := Ground.phase }, { on := 8, ground := Ground.phase }, { on := 9, ground := Ground.phase }, { on := 10, ground := Ground.phase }], guard := none }) (v := ?_) rfl (by kernel_rfl) (by kernel_rfl) (by kernel_rfl) (by assumption) ?_ ?_; rotate_left; focus (refine .inl ⟨by kernel_rfl, ?_⟩; intro w hSw; (try dsimp only at hSw); go_simp; (try with_reducible rfl)); (try simp only [Act.put, List.setIfInBounds_toArray, List.set_cons_zero, List.set_cons_succ]))
      refine wpAnyH_done (by kernel_rfl) ?_ _
      refine NoPanic.normal ?_
      have hLast := hHeld10
      clear hHeld10
      go_wp2
      go_meet
      exact ⟨A8, c8, rfl, HP8.out, hLast.2.2⟩
  case rest =>
    obtain ⟨A9, c9, rfl, hp9, hb9⟩ := hcut
    have k9 := (hb9.cell (p := ⟨w.heap.size, 0, none⟩) (block_lt_of_cell k0)).trans k0
    have HBE9 := Lib.hid (HBE.out.trans (hb9.mono HBE.out.size))
    have HP9 := Lib.hid hp9
    clear hp9 hb9 k0 k1 k2 HP0 HBE
    go_upto_region 4 with fail
    refine wp_region_noPanic ?_
    refine wp_region_held_drew (S := fun W => W.cell? ⟨w.heap.size, 0, none⟩ = some (.int .u8 x.id.toNat) ∧ Below wc.heap.size wc W) (by kernel_rfl) ⟨k9, (Below.refl _ _).drew⟩ (fun hHeld => ?_)
    (refine heldTake (i := 0) (oi := { dst := some 20, op := Op.fieldAddr 27 (Operand.tmp 1) 0, type := 0, pos := "sect.go:106", after := #[], guard := none }) (v := ?_) rfl (by kernel_rfl) (by kernel_rfl) (by kernel_rfl) (by assumption) ?_ ?_; rotate_left; focus (refine .inl ⟨by kernel_rfl, ?_⟩; intro w hSw; (try dsimp only at hSw); go_simp; (try with_reducible rfl)); (try simp only [Act.put, List.setIfInBounds_toArray, List.set_cons_zero, List.set_cons_succ]))
    (refine heldTake (i := 1) (oi := { dst := some 21, op := Op.load 5 (Operand.tmp 20), type := 5, pos := "sect.go:106", after := #[{ on := 0, ground := Ground.data }], guard := none }) (v := ?_) rfl (by kernel_rfl) (by kernel_rfl) (by kernel_rfl) (by assumption) ?_ ?_; rotate_left; focus (refine .inl ⟨by kernel_rfl, ?_⟩; intro w hSw; (try dsimp only at hSw); go_simp; (try with_reducible rfl)); (try simp only [Act.put, List.setIfInBounds_toArray, List.set_cons_zero, List.set_cons_succ]))
    (refine heldTake (i := 3) (oi := { dst := some 23, op := Op.move (Operand.tmp 3), type := 25, pos := "sect.go:106", after := #[], guard := none }) (v := ?_) rfl (by kernel_rfl) (by kernel_rfl) (by kernel_rfl) (by assumption) ?_ ?_; rotate_left; focus (refine .inl ⟨by kernel_rfl, ?_⟩; intro w hSw; (try dsimp only at hSw); go_simp; (try with_reducible rfl)); (try simp only [Act.put, List.setIfInBounds_toArray, List.set_cons_zero, List.set_cons_succ]))
    (refine heldTake (i := 4) (oi := { dst := some 24, op := Op.call { callee := Callee.builtin Builtin.len, args := #[Operand.tmp 23], argTypes := #[25] }, type := 3, pos := "sect.go:106", after := #[{ on := 3, ground := Ground.data }], guard := none }) (v := ?_) rfl (by kernel_rfl) (by kernel_rfl) (by kernel_rfl) (by assumption) ?_ ?_; rotate_left; focus (refine .inl ⟨by kernel_rfl, ?_⟩; intro w hSw; (try dsimp only at hSw); go_simp; (try with_reducible rfl)); (try simp only [Act.put, List.setIfInBounds_toArray, List.set_cons_zero, List.set_cons_succ]))
    (refine heldTake (i := 6) (oi := { dst := some 26, op := Op.move (Operand.tmp 3), type := 25, pos := "sect.go:106", after := #[], guard := none }) (v := ?_) rfl (by kernel_rfl) (by kernel_rfl) (by kernel_rfl) (by assumption) ?_ ?_; rotate_left; focus (refine .inl ⟨by kernel_rfl, ?_⟩; intro w hSw; (try dsimp only at hSw); go_simp; (try with_reducible rfl)); (try simp only [Act.put, List.setIfInBounds_toArray, List.set_cons_zero, List.set_cons_succ]))
    refine wpAnyH_ready (rs := [2, 5]) (by kernel_rfl) (by simp) ?_
    refine (AllReadyH.cons (o := { dst := some 22, op := Op.buildSlice 25 1 #[(0, Operand.tmp 21)], type := 25, pos := "sect.go:106", after := #[{ on := 1, ground := Ground.data }], guard := none }) rfl (fun K hK => ?_) (AllReadyH.cons (o := { dst := some 25, op := Op.call { callee := Callee.value (Operand.func 13), args := #[Operand.tmp 24], argTypes := #[3] }, type := 25, pos := "sect.go:106", after := #[{ on := 4, ground := Ground.data }], guard := none }) rfl (fun K hK => ?_) AllReadyH.nil))
    · refine step_build1 rfl _ rfl x.id rfl ?_; intro g2 wa2 hg2 hb2 hp2; have HB2 := Lib.hid hb2; have HP2 := Lib.hid hp2; clear hb2 hp2
      refine hK.out _ _ (hold1 hHeld HB2.out) (fun hHeld2 => ?_)
      clear hK K hHeld
      (try simp only [Act.put, List.setIfInBounds_toArray, List.set_cons_zero, List.set_cons_succ])
      refine wpAnyH_ready (rs := [5]) (by kernel_rfl) (by simp) ?_
      refine (AllReadyH.cons (o := { dst := some 25, op := Op.call { callee := Callee.value (Operand.func 13), args := #[Operand.tmp 24], argTypes := #[3] }, type := 25, pos := "sect.go:106", after := #[{ on := 4, ground := Ground.data }], guard := none }) rfl (fun K hK => ?_) AllReadyH.nil)
      go_simp
      (go_at_call 13; (with_reducible refine (size_sect L.length _ (by have := HS4.out; omega)).mono ?_); rintro e w5 ⟨A5, c5, rfl, hp5, hb5⟩; have HB5 := Lib.hid hb5; have HP5 := Lib.hid hp5; clear hb5 hp5)
      refine hK.out _ _ (hold1 hHeld2 HB5.out) (fun hHeld5 => ?_)
      clear hK K hHeld2
      (try simp only [Act.put, List.setIfInBounds_toArray, List.set_cons_zero, List.set_cons_succ])
      refine wpAnyH_ready (rs := [7]) (by kernel_rfl) (by simp) ?_
      refine (AllReadyH.cons (o := { dst := some 27, op := Op.buildSlice 56 3 #[(0, Operand.tmp 22), (1, Operand.tmp 25), (2, Operand.tmp 26)], type := 56, pos := "sect.go:106", after := #[{ on := 2, ground := Ground.data }, { on := 5, ground := Ground.data }, { on := 6, ground := Ground.data }], guard := none }) rfl (fun K hK => ?_) AllReadyH.nil)
      refine step_build3 rfl _ _ _ rfl rfl rfl rfl ?_; intro g7 wa7 hg7 hb7 hw7; have HB7 := Lib.hid hb7; have HW7 := Lib.hid hw7; clear hb7 hw7
      refine hK.out _ _ (hold1 hHeld5 HB7.out) (fun hHeld7 => ?_)
      clear hK K hHeld5
      (try simp only [Act.put, List.setIfInBounds_toArray, List.set_cons_zero, List.set_cons_succ])
      refine wpAnyH_ready (rs := [8]) (by kernel_rfl) (by simp) ?_
      refine (AllReadyH.cons (o := { dst := some 28, op := Op.call { callee := Callee.value (Operand.func 12), args := #[Operand.tmp 27], argTypes := #[56] }, type := 25, pos := "sect.go:106", after := #[{ on := 7, ground := Ground.data }, { on := 5, ground := Ground.chain }], guard := none }) rfl (fun K hK => ?_) AllReadyH.nil)
      go_simp
      (go_at_call 12; (with_reducible refine (concat3 (l1 := [x.id]) HW7.out (((((HP2.out).below HB5.out)).below HB7.out)) (((HP5.out).below HB7.out)) (HP9.out.below hHeld7.2) (by have : ([x.id] : List UInt8).length = 1 := rfl; omega) (by have := HS4.out; omega)).mono ?_); rintro e w8 ⟨v8, rfl, hr8, hb8⟩; have hz8 := Nat.le_trans HBE9.out.size hHeld7.2.size; have HB8 := Lib.hid hb8; have HR8 := Lib.hid hr8; clear hb8 hr8)
      refine hK.out _ _ (hold1 hHeld7 HB8.out) (fun hHeld8 => ?_)
      clear hK K hHeld7
      (try simp only [Act.put, List.setIfInBounds_toArray, List.set_cons_zero, List.set_cons_succ])
      (refine heldTake (i := 9) (oi := { dst := some 2, op := Op.assign (Operand.tmp 28), type := 25, pos := "sect.go:106", after := #[{ on := 8, ground := Ground.data }, { on := 8, ground := Ground.chain }, { on := 0, ground := Ground.phase }, { on := 1, ground := Ground.phase }, { on := 2, ground := Ground.phase }, { on := 3, ground := Ground.phase }, { on := 4, ground := Ground.phase }, { on := 5, ground := Ground.phase }, { on := 6, ground := Ground.phase }, { on := 7, ground := Ground.phase }, { on := 8, ground := Ground.phase }], guard := none }) (v := ?_) rfl (by kernel_rfl) (by kernel_rfl) (by kernel_rfl) (by assumption) ?_ ?_; rotate_left; focus (refine .inl ⟨by kernel_rfl, ?_⟩; intro w hSw; (try dsimp only at hSw); go_simp; (try with_reducible rfl)); (try simp only [Act.put, List.setIfInBounds_toArray, List.set_cons_zero, List.set_cons_succ]))
      refine wpAnyH_done (by kernel_rfl) ?_ _
      refine NoPanic.normal ?_
      have hLast := hHeld8
      clear hHeld8
      go_wp2
      go_ret
      exact ⟨_, rfl, by rw [HSP.out]; exact HR8.out.mono hz8, HBE9.out.trans (hLast.2.mono HBE9.out.size)⟩
    · go_simp
      (go_at_call 13; (with_reducible refine (size_sect L.length _ (by have := HS4.out; omega)).mono ?_); rintro e w5 ⟨A5, c5, rfl, hp5, hb5⟩; have HB5 := Lib.hid hb5; have HP5 := Lib.hid hp5; clear hb5 hp5)
      refine hK.out _ _ (hold1 hHeld HB5.out) (fun hHeld5 => ?_)
      clear hK K hHeld
      (try simp only [Act.put, List.setIfInBounds_toArray, List.set_cons_zero, List.set_cons_succ])
      refine wpAnyH_ready (rs := [2]) (by kernel_rfl) (by simp) ?_
      refine (AllReadyH.cons (o := { dst := some 22, op := Op.buildSlice 25 1 #[(0, Operand.tmp 21)], type := 25, pos := "sect.go:106", after := #[{ on := 1, ground := Ground.data }], guard := none }) rfl (fun K hK => ?_) AllReadyH.nil)
      refine step_build1 rfl _ rfl x.id rfl ?_; intro g2 wa2 hg2 hb2 hp2; have HB2 := Lib.hid hb2; have HP2 := Lib.hid hp2; clear hb2 hp2
      refine hK.out _ _ (hold1 hHeld5 HB2.out) (fun hHeld2 => ?_)
      clear hK K hHeld5
      (try simp only [Act.put, List.setIfInBounds_toArray, List.set_cons_zero, List.set_cons_succ])
      refine wpAnyH_ready (rs := [7]) (by kernel_rfl) (by simp) ?_
      refine (AllReadyH.cons (o := { dst := some 27, op := Op.buildSlice 56 3 #[(0, Operand.tmp 22), (1, Operand.tmp 25), (2, Operand.tmp 26)], type := 56, pos := "sect.go:106", after := #[{ on := 2, ground := Ground.data }, { on := 5, ground := Ground.data }, { on := 6, ground := Ground.data }], guard := none }) rfl (fun K hK => ?_) AllReadyH.nil)
      refine step_build3 rfl _ _ _ rfl rfl rfl rfl ?_; intro g7 wa7 hg7 hb7 hw7; have HB7 := Lib.hid hb7; have HW7 := Lib.hid hw7; clear hb7 hw7
      refine hK.out _ _ (hold1 hHeld2 HB7.out) (fun hHeld7 => ?_)
      clear hK K hHeld2
      (try simp only [Act.put, List.setIfInBounds_toArray, List.set_cons_zero, List.set_cons_succ])
      refine wpAnyH_ready (rs := [8]) (by kernel_rfl) (by simp) ?_
      refine (AllReadyH.cons (o := { dst := some 28, op := Op.call { callee := Callee.value (Operand.func 12), args := #[Operand.tmp 27], argTypes := #[56] }, type := 25, pos := "sect.go:106", after := #[{ on := 7, ground := Ground.data }, { on := 5, ground := Ground.chain }], guard := none }) rfl (fun K hK => ?_) AllReadyH.nil)
      go_simp
      (go_at_call 12; (with_reducible refine (concat3 (l1 := [x.id]) HW7.out (((HP2.out).below HB7.out)) (((((HP5.out).below HB2.out)).below HB7.out)) (HP9.out.below hHeld7.2) (by have : ([x.id] : List UInt8).length = 1 := rfl; omega) (by have := HS4.out; omega)).mono ?_); rintro e w8 ⟨v8, rfl, hr8, hb8⟩; have hz8 := Nat.le_trans HBE9.out.size hHeld7.2.size; have HB8 := Lib.hid hb8; have HR8 := Lib.hid hr8; clear hb8 hr8)
      refine hK.out _ _ (hold1 hHeld7 HB8.out) (fun hHeld8 => ?_)
      clear hK K hHeld7
      (try simp only [Act.put, List.setIfInBounds_toArray, List.set_cons_zero, List.set_cons_succ])
      (refine heldTake (i := 9) (oi := { dst := some 2, op := Op.assign (Operand.tmp 28), type := 25, pos := "sect.go:106", after := #[{ on := 8, ground := Ground.data }, { on := 8, ground := Ground.chain }, { on := 0, ground := Ground.phase }, { on := 1, ground := Ground.phase }, { on := 2, ground := Ground.phase }, { on := 3, ground := Ground.phase }, { on := 4, ground := Ground.phase }, { on := 5, ground := Ground.phase }, { on := 6, ground := Ground.phase }, { on := 7, ground := Ground.phase }, { on := 8, ground := Ground.phase }], guard := none }) (v := ?_) rfl (by kernel_rfl) (by kernel_rfl) (by kernel_rfl) (by assumption) ?_ ?_; rotate_left; focus (refine .inl ⟨by kernel_rfl, ?_⟩; intro w hSw; (try dsimp only at hSw); go_simp; (try with_reducible rfl)); (try simp only [Act.put, List.setIfInBounds_toArray, List.set_cons_zero, List.set_cons_succ]))
      refine wpAnyH_done (by kernel_rfl) ?_ _
      refine NoPanic.normal ?_
      have hLast := hHeld8
      clear hHeld8
      go_wp2
      go_ret
      exact ⟨_, rfl, by rw [HSP.out]; exact HR8.out.mono hz8, HBE9.out.trans (hLast.2.mono HBE9.out.size)⟩
theorem put_sect (x : Sct) (A : Option Addr) (c : Nat) (w : World) (hp : Pc A c x.body w) (hn : x.name.length ≤ 100000) (hb : x.body.length ≤ 100000) :
    Calls Tryd.prog 5 #[secV x A c] w (BytesL (sputL x) w) := by
  by_cases h0 : x.id.toNat = 0
  · exact put_custom x A c w hp hn hb h0
  · exact put_other x A c w hp hn hb h0
end Go.Proofs.YtofmjcpldmedaaaDoor
