/- Single steps of a region that draws its order: what makes memory or writes. -/
import Derived.Test.YtmjcbliobjmmfaaLawT
import Derived.Test.YtmjcbliobjmmfaaHeld
namespace Go.Proofs.Ytmjcbliobjmmfaa
open Go.RowKit
set_option linter.unusedVariables false

/-- []byte(s): its block. -/
def convRow (W : World) (s : ByteArray) : Obj := .cells (bytesRow s (grownCap W s.size 0 5)) 5 ((bytesRow s (grownCap W s.size 0 5)).size, (bytesRow s (grownCap W s.size 0 5)).size + 1)
theorem conv_run (s : ByteArray) (W : World) : (convert 9 32 (.string s)).run Try.prog W = .ok (.slice (some ⟨W.heap.size, 0, none⟩) s.size (grownCap W s.size 0 5)) (W.drew.alloc (convRow W s)) :=
  run_bytes_of_string (P := Try.prog) W 9 32 5 s Try.underlying9 Try.underlying32 Try.underlying5
theorem conv_lies (W : World) (l : List UInt8) : Lies (W.drew.alloc (convRow W (S l))) (W.heap.size + 1) (some ⟨W.heap.size, 0, none⟩) (cells (nums l)) := by
  intro i v hv
  refine ⟨W.heap.size, 0, rfl, by omega, ?_⟩
  have hi : i < l.length := by
    have := (List.getElem?_eq_some_iff.1 hv).1
    rw [cells_length, nums_length] at this
    exact this
  rw [Nat.zero_add, ← hv]
  have hr : (bytesRow (S l) (grownCap W (S l).size 0 5))[i]? = (cells (nums l))[i]? := by
    unfold bytesRow S cells nums
    simp [Array.getElem?_append, hi]
  rw [← hr]
  exact cell_of_row _ W.heap.size i _ _ _ (heap_alloc_new W.drew _)
theorem Lies.put {w : World} {B g bb : Nat} {vs : List Value} (h : Lies w B (some ⟨g, 0, none⟩) vs) (hne : g ≠ bb) (i : Nat) (v : Value) : Lies (w.setCell ⟨bb, i, none⟩ v) B (some ⟨g, 0, none⟩) vs := fun j u hu => by
  obtain ⟨b, off, e, h1, h2⟩ := h j u hu
  injection e with e
  injection e with e1 e2
  subst e1; subst e2
  refine ⟨g, 0, rfl, h1, ?_⟩
  rw [← h2]
  exact World.cell?_of_block (a := ⟨g, 0 + j, none⟩) (heap_setCell_other w ⟨bb, i, none⟩ g v hne)
section
variable {w : World} {ops : Array Oper} {o : Oper} {a : Act} {K : Act → World → Prop} {Q : Exit → Act → World → Prop} {E : Prop}
theorem step_value {v : Value} {w' : World} (hgd : o.guard = none) (h : (execOp a.eval o).run Try.prog w = .ok (.value v) w') (hK : K (a.put o.dst v) w') :
    if Region.wanted o (yielded ops a.tmps) = true then Oper.wp Try.prog o a w K Q else E := by
  have hw : Region.wanted o (yielded ops a.tmps) = true := by simp [Region.wanted, hgd]
  rw [if_pos hw]
  unfold Oper.wp
  rw [h]
  exact hK
theorem step_skip {w' : World} (hgd : o.guard = none) (h : (execOp a.eval o).run Try.prog w = .ok .skip w') (hK : K (a.put o.dst undef) w') :
    if Region.wanted o (yielded ops a.tmps) = true then Oper.wp Try.prog o a w K Q else E := by
  have hw : Region.wanted o (yielded ops a.tmps) = true := by simp [Region.wanted, hgd]
  rw [if_pos hw]
  unfold Oper.wp
  rw [h]
  exact hK
/-- A cell for a slice of bytes is made. -/
theorem step_alloc (hgd : o.guard = none) (ho : o.op = .alloc 32) (h : ∀ bb wa, w.heap.size ≤ bb → bb < wa.heap.size → Below w.heap.size w wa → Whole wa bb 32 #[.slice none 0 0] → K (a.put o.dst (.pointer (some ⟨bb, 0, none⟩))) wa) :
    if Region.wanted o (yielded ops a.tmps) = true then Oper.wp Try.prog o a w K Q else E := by
  refine step_value (w' := w.alloc (.cells #[.slice none 0 0] 32)) hgd ?_ (h _ _ (Nat.le_refl _) (by simp) (below_box w _) (Whole.made w _ _))
  cases o
  subst ho
  simp [go_sem]
/-- []byte(s). -/
theorem step_conv (hgd : o.guard = none) (x : Operand) (ho : o.op = .convert 9 32 x) (l : List UInt8) (hx : a.eval x = .string (S l))
    (h : ∀ g cap wc, w.heap.size ≤ g → g < wc.heap.size → l.length ≤ cap → Below w.heap.size w wc → Lies wc wc.heap.size (some ⟨g, 0, none⟩) (cells (nums l)) → K (a.put o.dst (.slice (some ⟨g, 0, none⟩) l.length cap)) wc) :
    if Region.wanted o (yielded ops a.tmps) = true then Oper.wp Try.prog o a w K Q else E := by
  have hr := conv_run (S l) w
  have hg := grownCap_ge w (S l).size 0 5
  rw [S_size] at hg
  refine step_value (v := .slice (some ⟨w.heap.size, 0, none⟩) l.length (grownCap w l.length 0 5)) (w' := w.drew.alloc (convRow w (S l))) hgd ?_ (h _ _ _ (Nat.le_refl _) (by simp) hg ((Below.refl _ _).drew.alloc (Nat.le_refl _) _) ((conv_lies w l).more (by simp)))
  cases o
  subst ho
  rw [S_size] at hr
  clear h
  generalize a.eval = ev at hx ⊢
  simp [go_sem, hx, hr]
/-- The cell is written. -/
theorem step_store (hgd : o.guard = none) (pa pv : Operand) (ho : o.op = .store 32 pa pv) (bb : Nat) (A : Option Addr) (n c : Nat) (hx : a.eval pa = .pointer (some ⟨bb, 0, none⟩)) (hv : a.eval pv = .slice A n c) {y : Value}
    (hw : Whole w bb 32 #[y]) (h : K (a.put o.dst undef) (w.setCell ⟨bb, 0, none⟩ (.slice A n c))) :
    if Region.wanted o (yielded ops a.tmps) = true then Oper.wp Try.prog o a w K Q else E := by
  have c0 := hw.cell 0
  have f0 := hw.frozen 0
  simp only [List.getElem?_toArray, List.getElem?_cons_zero] at c0
  refine step_skip hgd ?_ h
  cases o
  subst ho
  clear h
  generalize a.eval = ev at hx hv ⊢
  simp [go_sem, hx, hv, c0, f0]
end
end Go.Proofs.Ytmjcbliobjmmfaa

