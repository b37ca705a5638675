/- Single steps of a region that draws its order: what makes memory or writes. -/
import Derived.Test.YtebgmfjgapmpfabGreatDoorQe01
import Derived.Test.YtebgmfjgapmpfabGreatDoorQe03
import Derived.Test.YtebgmfjgapmpfabGreatDoorQf07
import Derived.Test.YtebgmfjgapmpfabGreatDoorQe02
import Derived.Test.YtebgmfjgapmpfabGreatDoorQf05
namespace Go.Proofs.YtebgmfjgapmpfabGreatDoor
open Go.RowKit
set_option linter.unusedVariables false

/-- []byte(s): its block. -/
def convRow (W : World) (s : ByteArray) : Obj := .cells (bytesRow s (grownCap W s.size 0 5)) 5 ((bytesRow s (grownCap W s.size 0 5)).size, (bytesRow s (grownCap W s.size 0 5)).size + 1)
theorem conv_run (s : ByteArray) (W : World) : (convert 9 32 (.string s)).run Tryz.prog W = .ok (.slice (some ⟨W.heap.size, 0, none⟩) s.size (grownCap W s.size 0 5)) (W.drew.alloc (convRow W s)) :=
  run_bytes_of_string (P := Tryz.prog) W 9 32 5 s Tryz.underlying9 Tryz.underlying32 Tryz.underlying5
theorem conv_lies (W : World) (l : List UInt8) : Lies (W.drew.alloc (convRow W (S l))) (W.heap.size + 1) (some ⟨W.heap.size, 0, none⟩) (cells (nums l)) := by
  intro i v hv
  refine ⟨W.heap.size, 0, rfl, by omega, ?_⟩
  have hi : i < l.length := by
    have := (List.getElem?_eq_some_iff.1 hv).1
    rw [cells_length, nums_length] at this
    exact this
  rw [Nat.zero_add, ← hv]
  have hr : (bytesRow (S l) (grownCap W (S l).size 0 5))[i]? = (cells (nums l))[i]? := by
    unfold bytesRow S cells nums
    simp [Array.getElem?_append, hi]
  rw [← hr]
  exact cell_of_row _ W.heap.size i _ _ _ (heap_alloc_new W.drew _)
theorem Lies.put {w : World} {B g bb : Nat} {vs : List Value} (h : Lies w B (some ⟨g, 0, none⟩) vs) (hne : g ≠ bb) (i : Nat) (v : Value) : Lies (w.setCell ⟨bb, i, none⟩ v) B (some ⟨g, 0, none⟩) vs := fun j u hu => by
  obtain ⟨b, off, e, h1, h2⟩ := h j u hu
  injection e with e
  injection e with e1 e2
  subst e1; subst e2
  refine ⟨g, 0, rfl, h1, ?_⟩
  rw [← h2]
  exact World.cell?_of_block (a := ⟨g, 0 + j, none⟩) (heap_setCell_other w ⟨bb, i, none⟩ g v hne)
section
variable {w : World} {ops : Array Oper} {o : Oper} {a : Act} {K : Act → World → Prop} {Q : Exit → Act → World → Prop} {E : Prop}
theorem step_value {v : Value} {w' : World} (hgd : o.guard = none) (h : (execOp a.eval o).run Tryz.prog w = .ok (.value v) w') (hK : K (a.put o.dst v) w') :
    if Region.wanted o (yielded ops a.tmps) = true then Oper.wp Tryz.prog o a w K Q else E := by
  have hw : Region.wanted o (yielded ops a.tmps) = true := by simp [Region.wanted, hgd]
  rw [if_pos hw]
  unfold Oper.wp
  rw [h]
  exact hK
theorem step_skip {w' : World} (hgd : o.guard = none) (h : (execOp a.eval o).run Tryz.prog w = .ok .skip w') (hK : K (a.put o.dst undef) w') :
    if Region.wanted o (yielded ops a.tmps) = true then Oper.wp Tryz.prog o a w K Q else E := by
  have hw : Region.wanted o (yielded ops a.tmps) = true := by simp [Region.wanted, hgd]
  rw [if_pos hw]
  unfold Oper.wp
  rw [h]
  exact hK
/-- A cell for a slice of bytes is made. -/
theorem step_alloc (hgd : o.guard = none) (ho : o.op = .alloc 32) (h : ∀ bb wa, w.heap.size ≤ bb → bb < wa.heap.size → Below w.heap.size w wa → Whole wa bb 32 #[.slice none 0 0] → K (a.put o.dst (.pointer (some ⟨bb, 0, none⟩))) wa) :
    if Region.wanted o (yielded ops a.tmps) = true then Oper.wp Tryz.prog o a w K Q else E := by
  refine step_value (w' := w.alloc (.cells #[.slice none 0 0] 32)) hgd ?_ (h _ _ (Nat.le_refl _) (by simp) (below_box w _) (Whole.made w _ _))
  cases o
  subst ho
  simp [go_sem]
/-- []byte(s). -/
theorem step_conv (hgd : o.guard = none) (x : Operand) (ho : o.op = .convert 9 32 x) (l : List UInt8) (hx : a.eval x = .string (S l))
    (h : ∀ g cap wc, w.heap.size ≤ g → g < wc.heap.size → l.length ≤ cap → Below w.heap.size w wc → Lies wc wc.heap.size (some ⟨g, 0, none⟩) (cells (nums l)) → K (a.put o.dst (.slice (some ⟨g, 0, none⟩) l.length cap)) wc) :
    if Region.wanted o (yielded ops a.tmps) = true then Oper.wp Tryz.prog o a w K Q else E := by
  have hr := conv_run (S l) w
  have hg := grownCap_ge w (S l).size 0 5
  rw [S_size] at hg
  refine step_value (v := .slice (some ⟨w.heap.size, 0, none⟩) l.length (grownCap w l.length 0 5)) (w' := w.drew.alloc (convRow w (S l))) hgd ?_ (h _ _ _ (Nat.le_refl _) (by simp) hg ((Below.refl _ _).drew.alloc (Nat.le_refl _) _) ((conv_lies w l).more (by simp)))
  cases o
  subst ho
  rw [S_size] at hr
  clear h
  generalize a.eval = ev at hx ⊢
  simp [go_sem, hx, hr]
/-- The cell is written. -/
theorem step_store (hgd : o.guard = none) (pa pv : Operand) (ho : o.op = .store 32 pa pv) (bb : Nat) (A : Option Addr) (n c : Nat) (hx : a.eval pa = .pointer (some ⟨bb, 0, none⟩)) (hv : a.eval pv = .slice A n c) {y : Value}
    (hw : Whole w bb 32 #[y]) (h : K (a.put o.dst undef) (w.setCell ⟨bb, 0, none⟩ (.slice A n c))) :
    if Region.wanted o (yielded ops a.tmps) = true then Oper.wp Tryz.prog o a w K Q else E := by
  have c0 := hw.cell 0
  have f0 := hw.frozen 0
  simp only [List.getElem?_toArray, List.getElem?_cons_zero] at c0
  refine step_skip hgd ?_ h
  cases o
  subst ho
  clear h
  generalize a.eval = ev at hx hv ⊢
  simp [go_sem, hx, hv, c0, f0]
end
end Go.Proofs.YtebgmfjgapmpfabGreatDoor

/- The reference's Types, Count, Put of bodies. -/
namespace Go.Proofs.YtebgmfjgapmpfabGreatDoor
open Go.RowKit
set_option linter.unusedVariables false
set_option maxRecDepth 100000

section
variable {w : World} {ops : Array Oper} {o : Oper} {a : Act} {K : Act → World → Prop} {Q : Exit → Act → World → Prop} {E : Prop}
theorem step_build1 (hgd : o.guard = none) (x : Operand) (ho : o.op = .buildSlice 32 1 #[(0, x)]) (c : UInt8) (hx : a.eval x = .int .u8 c.toNat)
    (h : ∀ g wa, w.heap.size ≤ g → Below w.heap.size w wa → Pc (some ⟨g, 0, none⟩) 1 [c] wa → K (a.put o.dst (.slice (some ⟨g, 0, none⟩) 1 1)) wa) :
    if Region.wanted o (yielded ops a.tmps) = true then Oper.wp Tryz.prog o a w K Q else E := by
  have hl := lies_made w [c] (0, 0)
  refine step_value (v := .slice (some ⟨w.heap.size, 0, none⟩) 1 1) (w' := w.alloc (.cells (cells (nums [c])).toArray 5)) hgd ?_ (h _ _ (Nat.le_refl _) (below_box w _) ⟨by rw [size_box]; exact hl, fun e => by cases e⟩)
  cases o
  subst ho
  clear h
  generalize a.eval = ev at hx ⊢
  simp [go_sem, hx, cells, nums]
end
/-- string(b), behind the walk's own simplifying. -/
theorem upon_str {o : Oper} {a : Act} {K : Act → World → Prop} {Q : Exit → Act → World → Prop} {W : World} {A : Option Addr} {c : Nat} {l : List UInt8} (hp : Pc A c l W) (h : K (a.put o.dst (.string (S l))) W) :
    Oper.upon Tryz.prog o a K Q (((convert 32 9 (.slice A l.length c)).run Tryz.prog W).andThen fun v w' => Result.ok (Next.value v) w') := by
  rw [str_any hp.lies c 9 Tryz.underlying9]
  exact h
theorem typL_snoc {l : List Lo} {k : Nat} {x : Lo} (h : l[k]? = some x) : typL (l.take (k + 1)) = typL (l.take k) ++ List.replicate x.n.toNat x.t := by
  unfold typL
  rw [List.take_add_one, h, List.flatMap_append]
  simp
theorem typL_take (l : List Lo) (k : Nat) : (typL (l.take k)).length ≤ (typL l).length := by
  conv => rhs; rw [← List.take_append_drop k l]
  unfold typL
  rw [List.flatMap_append, List.length_append]
  omega
/-- One byte as a string. -/
theorem str_byte (W : World) (t : UInt8) : (convert 32 9 (.slice (some ⟨W.heap.size, 0, none⟩) 1 1)).run Tryz.prog (W.alloc (.cells #[.int .u8 t.toNat] 5)) = .ok (.string (S [t])) (W.alloc (.cells #[.int .u8 t.toNat] 5)) :=
  str_any (lies_made W [t] (0, 0)) 1 9 Tryz.underlying9
end Go.Proofs.YtebgmfjgapmpfabGreatDoor

/- The reference's Count, Put of bodies. -/
namespace Go.Proofs.YtebgmfjgapmpfabGreatDoor
open Go.RowKit
set_option linter.unusedVariables false
set_option maxRecDepth 100000

theorem rbcount_any (n : Nat) (w : World) (hn : n ≤ 4294967295) : Calls Tryz.prog 7 #[.int .i64 n] w fun e w' => e = .returned (.string (S (lebL n))) ∧ Below w.heap.size w w' := by
  have HC := Lib.hid (fun w => count_any (n : Int) w (by omega) (by omega))
  generalize lebL (n : Int) = y at *
  go_enter Tryz.func7, Tryz.ntmps7
  go_wp2_with (go_at_call 29; go_must ((with_reducible refine (HC.out _).mono ?_); rintro e w1 ⟨rfl, hb⟩; have HB := Lib.hid hb; clear hb))
  go_ret
  exact ⟨rfl, HB.out⟩
/-- The groups' bytes; a body's, behind its size; all of them. -/
noncomputable def losL (l : List Lo) : List UInt8 := l.flatMap fun x => lebL x.n.toNat ++ [x.t]
noncomputable def bputL (x : Bd) : List UInt8 := (lebL x.ls.length ++ losL x.ls) ++ bodyL x.b
noncomputable def codeL (x : Bd) : List UInt8 := lebL (bputL x).length ++ bputL x
theorem losL_snoc {l : List Lo} {k : Nat} {x : Lo} (h : l[k]? = some x) : losL (l.take (k + 1)) = losL (l.take k) ++ (lebL x.n.toNat ++ [x.t]) := by
  unfold losL
  rw [List.take_add_one, h, List.flatMap_append]
  simp
theorem losL_len : ∀ l : List Lo, (losL l).length ≤ l.length * 11
  | [] => by simp [losL]
  | x :: r => by
    have h1 := losL_len r
    have h2 := lebL_len (x.n.toNat : Int) (by have := x.n.toNat_lt; omega)
    unfold losL at h1 ⊢
    simp only [List.flatMap_cons, List.length_append, List.length_cons, List.length_nil]
    omega
theorem losL_take (l : List Lo) (k : Nat) (h : l.length ≤ 50) : (losL (l.take k)).length ≤ 550 := by
  have h1 := losL_len (l.take k)
  have h2 : (l.take k).length ≤ l.length := by rw [List.length_take]; omega
  omega
theorem bodyL_take {l : List I} (hok : ∀ i ∈ l, i.Ok ∧ i.l.length ≤ 100) (h : l.length ≤ 60) (k : Nat) : (bodyL (l.take k)).length ≤ 66000 := by
  have h1 := bodyL_len (l.take k) (fun i hi => hok i (List.mem_of_mem_take hi))
  have h2 : (l.take k).length ≤ l.length := by rw [List.length_take]; omega
  omega
theorem bputL_len {x : Bd} (h50 : x.ls.length ≤ 50) (h60 : x.b.length ≤ 60) (hok : ∀ i ∈ x.b, i.Ok ∧ i.l.length ≤ 100) : (bputL x).length ≤ 66600 := by
  have h1 := lebL_len (x.ls.length : Int) (by omega)
  have h2 := losL_take x.ls x.ls.length h50
  have h3 := bodyL_take hok h60 x.b.length
  rw [List.take_length] at h2 h3
  unfold bputL
  rw [List.length_append, List.length_append]
  omega
/-- The body's box, and one of its groups. -/
abbrev BdLo (w : World) (x : Bd) (L : Option Addr) (l : Nat) (B : Option Addr) (c : Nat) (b off k : Nat) (y : Lo) (W : World) : Prop :=
  BxBd w w.heap.size x L l B c W ∧ W.cell? ⟨b, off + k * 2, none⟩ = some (.int .u32 y.n.toNat) ∧ W.cell? ⟨b, off + k * 2 + 1, none⟩ = some (.int .u8 y.t.toNat)
theorem bdLo_on {w W W' : World} {x : Bd} {L : Option Addr} {l : Nat} {B : Option Addr} {c b off k : Nat} {y : Lo} (hbl : b < w.heap.size) (h : BdLo w x L l B c b off k y W) (hb : Below W.heap.size W W') : BdLo w x L l B c b off k y W' := by
  have hz := (bxBd_bel h.1).size
  exact ⟨bxBd_on h.1 hb, (hb.cell (p := ⟨b, off + k * 2, none⟩) (show b < W.heap.size by omega)).trans h.2.1, (hb.cell (p := ⟨b, off + k * 2 + 1, none⟩) (show b < W.heap.size by omega)).trans h.2.2⟩
set_option maxHeartbeats 8000000 in
theorem rbput_any {w : World} {x : Bd} {L : Option Addr} {l : Nat} {B : Option Addr} {c : Nat} (hl : Los w L x.ls) (hi : Ins w B x.b) (h50 : x.ls.length ≤ 50) (h60 : x.b.length ≤ 60) (hok : ∀ i ∈ x.b, i.Ok ∧ i.l.length ≤ 100) (hr : ∀ i ∈ x.b, rightZ i = 0) :
    Calls Tryz.prog 10 #[bdV x L l B c] w (StrPost (codeL x) w) := by
  have h0 := bxBd_start w x L l B c
  have H0 := Lib.hid h0
  obtain ⟨i0, i1⟩ := h0.2
  have HL := Lib.hid hl
  have HI := Lib.hid hi
  have HOK := Lib.hid hok
  have HRZ := Lib.hid hr
  have HC := Lib.hid (fun (n : Nat) (hn : n ≤ 1000000) W => count_any (n : Int) W (by omega) (by omega))
  have HCl := Lib.hid (fun W => count_any (x.ls.length : Int) W (by omega) (by omega))
  have HLT := Lib.hid (fun k => losL_take x.ls k h50)
  have HBT := Lib.hid (fun k => bodyL_take hok h60 k)
  have hhd := lebL_len (x.ls.length : Int) (by omega)
  obtain ⟨P, hP⟩ : ∃ P, P = codeL x := ⟨_, rfl⟩
  rw [← hP]
  have HP := Lib.hid (hP.trans (show codeL x = lebL ((((lebL (x.ls.length : Int) ++ losL x.ls) ++ bodyL x.b).length : Nat) : Int) ++ ((lebL (x.ls.length : Int) ++ losL x.ls) ++ bodyL x.b) from rfl))
  obtain ⟨hd, hhe⟩ : ∃ hd, hd = lebL (x.ls.length : Int) := ⟨_, rfl⟩
  rw [← hhe] at HCl HP hhd
  clear hl hi hok hr h0 hP hhe
  go_enter Tryz.func10, Tryz.ntmps10
  go_wp2_with (go_at_call 29; go_must ((with_reducible refine (HCl.out _).mono ?_); rintro e w1 ⟨rfl, hb⟩; have H1 := Lib.hid (bxBd_on H0.out hb); clear hb i0 i1))
  go_loopw [3, 4] (fun s i wr => ∃ (k : Nat), k ≤ x.ls.length ∧ i = .int .i64 k ∧ s = .string (S (hd ++ losL (x.ls.take k))) ∧ BxBd w w.heap.size x L l B c wr) (fun _ i _ => x.ls.length - (intOf i).toNat)
  case atStart => exact ⟨0, Nat.zero_le _, rfl, by simp [losL], H1.out⟩
  case round =>
    obtain ⟨k, hk, rfl, rfl, hbx⟩ := hrel
    have HB := Lib.hid hbx
    obtain ⟨i0, i1⟩ := hbx.2
    have htl := HLT.out k
    obtain ⟨t, ht⟩ : ∃ t, t = hd ++ losL (x.ls.take k) := ⟨_, rfl⟩
    have htn : t.length ≤ 600 := by rw [ht, List.length_append]; omega
    have HT := Lib.hid ht
    rw [← ht]
    clear hbx ht htl
    by_cases hlt : k < x.ls.length
    · obtain ⟨y, hy⟩ : ∃ y, x.ls[k]? = some y := ⟨_, List.getElem?_eq_getElem hlt⟩
      obtain ⟨b, off, rfl, hbl, k0, k1⟩ := HL.out k y hy
      have HS := Lib.hid (losL_snoc hy)
      have hbd : BdLo w x (some ⟨b, off, none⟩) l B c b off k y wr := ⟨HB.out, ((bxBd_bel HB.out).cell (p := ⟨b, off + k * 2, none⟩) hbl).trans k0, ((bxBd_bel HB.out).cell (p := ⟨b, off + k * 2 + 1, none⟩) hbl).trans k1⟩
      have HD := Lib.hid (bdLo_on hbl hbd (Below.refl _ _).drew)
      have hyn := y.n.toNat_lt
      have wy : IntKind.i64.wrap (y.n.toNat : Int) = y.n.toNat := by rw [IntKind.wrap_i64]; omega
      have HCy := Lib.hid (fun W => show Calls Tryz.prog 29 #[.int .i64 y.n.toNat] W fun e w' => e = .returned (.string (S (lebL y.n.toNat))) ∧ Below W.heap.size W w' from count_any (y.n.toNat : Int) W (by omega) (by omega))
      have hul := lebL_len (y.n.toNat : Int) (by omega)
      obtain ⟨u, hu⟩ : ∃ u, u = lebL (y.n.toNat : Int) := ⟨_, rfl⟩
      rw [← hu] at HCy hul HS
      have st := S_size t
      have su := S_size u
      have sv := S_size [y.t]
      rw [List.length_singleton] at sv
      have q1 : ¬ 9223372036854775807 < (S t).size + (S u).size := by omega
      have q2 : ¬ 9223372036854775807 < (S t).size + (S u).size + (S [y.t]).size := by omega
      clear hy hu k0 k1 st su sv hbd
      go_wp2_with fail
      refine wp_region_noPanic ?_
      refine wp_region_held_drew (S := fun W => BdLo w x (some ⟨b, off, none⟩) l B c b off k y W) (by kernel_rfl) HD.out (fun hHeld => ?_)
      (refine heldTake (i := 0) (oi := { dst := some 17, op := Op.move (Operand.tmp 3), type := 9, pos := "ref.go:77", after := #[], guard := none }) (v := ?_) rfl (by kernel_rfl) (by kernel_rfl) (by kernel_rfl) (by assumption) ?_ ?_; rotate_left; focus (refine .inl ⟨by kernel_rfl, ?_⟩; intro w hSw; (try dsimp only at hSw); go_simp; (try with_reducible rfl)); skip)
      (try simp only [Act.put, List.setIfInBounds_toArray, List.set_cons_zero, List.set_cons_succ])
      (refine heldTake (i := 1) (oi := { dst := some 18, op := Op.fieldAddr 28 (Operand.tmp 1) 0, type := 0, pos := "ref.go:77", after := #[], guard := none }) (v := ?_) rfl (by kernel_rfl) (by kernel_rfl) (by kernel_rfl) (by assumption) ?_ ?_; rotate_left; focus (refine .inl ⟨by kernel_rfl, ?_⟩; intro w hSw; (try dsimp only at hSw); go_simp; (try with_reducible rfl)); skip)
      (try simp only [Act.put, List.setIfInBounds_toArray, List.set_cons_zero, List.set_cons_succ])
      (refine heldTake (i := 2) (oi := { dst := some 19, op := Op.load 25 (Operand.tmp 18), type := 25, pos := "ref.go:77", after := #[{ on := 1, ground := Ground.data }], guard := none }) (v := ?_) rfl (by kernel_rfl) (by kernel_rfl) (by kernel_rfl) (by assumption) ?_ ?_; rotate_left; focus (refine .inl ⟨by kernel_rfl, ?_⟩; intro w hSw; (try dsimp only at hSw); go_simp; (try with_reducible rfl)); skip)
      (try simp only [Act.put, List.setIfInBounds_toArray, List.set_cons_zero, List.set_cons_succ])
      (refine heldTake (i := 3) (oi := { dst := some 20, op := Op.move (Operand.tmp 4), type := 3, pos := "ref.go:77", after := #[], guard := none }) (v := ?_) rfl (by kernel_rfl) (by kernel_rfl) (by kernel_rfl) (by assumption) ?_ ?_; rotate_left; focus (refine .inl ⟨by kernel_rfl, ?_⟩; intro w hSw; (try dsimp only at hSw); go_simp; (try with_reducible rfl)); skip)
      (try simp only [Act.put, List.setIfInBounds_toArray, List.set_cons_zero, List.set_cons_succ])
      (refine heldTake (i := 4) (oi := { dst := some 21, op := Op.indexAddr 25 (Operand.tmp 19) (Operand.tmp 20), type := 0, pos := "ref.go:77", after := #[{ on := 2, ground := Ground.data }, { on := 3, ground := Ground.data }], guard := none }) (v := ?_) rfl (by kernel_rfl) (by kernel_rfl) (by kernel_rfl) (by assumption) ?_ ?_; rotate_left; focus (refine .inl ⟨by kernel_rfl, ?_⟩; intro w hSw; (try dsimp only at hSw); go_simp; (try with_reducible rfl)); skip)
      (try simp only [Act.put, List.setIfInBounds_toArray, List.set_cons_zero, List.set_cons_succ])
      (refine heldTake (i := 5) (oi := { dst := some 22, op := Op.fieldAddr 71 (Operand.tmp 21) 0, type := 0, pos := "ref.go:77", after := #[{ on := 4, ground := Ground.data }], guard := none }) (v := ?_) rfl (by kernel_rfl) (by kernel_rfl) (by kernel_rfl) (by assumption) ?_ ?_; rotate_left; focus (refine .inl ⟨by kernel_rfl, ?_⟩; intro w hSw; (try dsimp only at hSw); go_simp; (try with_reducible rfl)); skip)
      (try simp only [Act.put, List.setIfInBounds_toArray, List.set_cons_zero, List.set_cons_succ])
      (refine heldTake (i := 6) (oi := { dst := some 23, op := Op.load 69 (Operand.tmp 22), type := 69, pos := "ref.go:77", after := #[{ on := 5, ground := Ground.data }], guard := none }) (v := ?_) rfl (by kernel_rfl) (by kernel_rfl) (by kernel_rfl) (by assumption) ?_ ?_; rotate_left; focus (refine .inl ⟨by kernel_rfl, ?_⟩; intro w hSw; (try dsimp only at hSw); go_simp; (try with_reducible rfl)); skip)
      (try simp only [Act.put, List.setIfInBounds_toArray, List.set_cons_zero, List.set_cons_succ])
      (refine heldTake (i := 7) (oi := { dst := some 24, op := Op.convert 69 3 (Operand.tmp 23), type := 3, pos := "ref.go:77", after := #[{ on := 6, ground := Ground.data }], guard := none }) (v := ?_) rfl (by kernel_rfl) (by kernel_rfl) (by kernel_rfl) (by assumption) ?_ ?_; rotate_left; focus (refine .inl ⟨by kernel_rfl, ?_⟩; intro w hSw; (try dsimp only at hSw); go_simp; (try with_reducible rfl)); skip)
      (try simp only [Act.put, List.setIfInBounds_toArray, List.set_cons_zero, List.set_cons_succ])
      (refine heldTake (i := 10) (oi := { dst := some 27, op := Op.fieldAddr 28 (Operand.tmp 1) 0, type := 0, pos := "ref.go:77", after := #[], guard := none }) (v := ?_) rfl (by kernel_rfl) (by kernel_rfl) (by kernel_rfl) (by assumption) ?_ ?_; rotate_left; focus (refine .inl ⟨by kernel_rfl, ?_⟩; intro w hSw; (try dsimp only at hSw); go_simp; (try with_reducible rfl)); skip)
      (try simp only [Act.put, List.setIfInBounds_toArray, List.set_cons_zero, List.set_cons_succ])
      (refine heldTake (i := 11) (oi := { dst := some 28, op := Op.load 25 (Operand.tmp 27), type := 25, pos := "ref.go:77", after := #[{ on := 10, ground := Ground.data }], guard := none }) (v := ?_) rfl (by kernel_rfl) (by kernel_rfl) (by kernel_rfl) (by assumption) ?_ ?_; rotate_left; focus (refine .inl ⟨by kernel_rfl, ?_⟩; intro w hSw; (try dsimp only at hSw); go_simp; (try with_reducible rfl)); skip)
      (try simp only [Act.put, List.setIfInBounds_toArray, List.set_cons_zero, List.set_cons_succ])
      (refine heldTake (i := 12) (oi := { dst := some 29, op := Op.move (Operand.tmp 4), type := 3, pos := "ref.go:77", after := #[], guard := none }) (v := ?_) rfl (by kernel_rfl) (by kernel_rfl) (by kernel_rfl) (by assumption) ?_ ?_; rotate_left; focus (refine .inl ⟨by kernel_rfl, ?_⟩; intro w hSw; (try dsimp only at hSw); go_simp; (try with_reducible rfl)); skip)
      (try simp only [Act.put, List.setIfInBounds_toArray, List.set_cons_zero, List.set_cons_succ])
      (refine heldTake (i := 13) (oi := { dst := some 30, op := Op.indexAddr 25 (Operand.tmp 28) (Operand.tmp 29), type := 0, pos := "ref.go:77", after := #[{ on := 11, ground := Ground.data }, { on := 12, ground := Ground.data }], guard := none }) (v := ?_) rfl (by kernel_rfl) (by kernel_rfl) (by kernel_rfl) (by assumption) ?_ ?_; rotate_left; focus (refine .inl ⟨by kernel_rfl, ?_⟩; intro w hSw; (try dsimp only at hSw); go_simp; (try with_reducible rfl)); skip)
      (try simp only [Act.put, List.setIfInBounds_toArray, List.set_cons_zero, List.set_cons_succ])
      (refine heldTake (i := 14) (oi := { dst := some 31, op := Op.fieldAddr 71 (Operand.tmp 30) 1, type := 0, pos := "ref.go:77", after := #[{ on := 13, ground := Ground.data }], guard := none }) (v := ?_) rfl (by kernel_rfl) (by kernel_rfl) (by kernel_rfl) (by assumption) ?_ ?_; rotate_left; focus (refine .inl ⟨by kernel_rfl, ?_⟩; intro w hSw; (try dsimp only at hSw); go_simp; (try with_reducible rfl)); skip)
      (try simp only [Act.put, List.setIfInBounds_toArray, List.set_cons_zero, List.set_cons_succ])
      (refine heldTake (i := 15) (oi := { dst := some 32, op := Op.load 5 (Operand.tmp 31), type := 5, pos := "ref.go:77", after := #[{ on := 14, ground := Ground.data }], guard := none }) (v := ?_) rfl (by kernel_rfl) (by kernel_rfl) (by kernel_rfl) (by assumption) ?_ ?_; rotate_left; focus (refine .inl ⟨by kernel_rfl, ?_⟩; intro w hSw; (try dsimp only at hSw); go_simp; (try with_reducible rfl)); skip)
      (try simp only [Act.put, List.setIfInBounds_toArray, List.set_cons_zero, List.set_cons_succ])
      refine wpAnyH_ready (rs := [8, 16]) (by kernel_rfl) (by simp) ?_
      refine (AllReadyH.cons (o := { dst := some 25, op := Op.call { callee := Callee.value (Operand.func 29), args := #[Operand.tmp 24], argTypes := #[3] }, type := 9, pos := "ref.go:77", after := #[{ on := 7, ground := Ground.data }], guard := none }) rfl (fun K hK => ?_) (AllReadyH.cons (o := { dst := some 33, op := Op.buildSlice 32 1 #[(0, Operand.tmp 32)], type := 32, pos := "ref.go:77", after := #[{ on := 15, ground := Ground.data }], guard := none }) rfl (fun K hK => ?_) AllReadyH.nil))
      · go_simp
        (go_at_call 29; (with_reducible refine (HCy.out _).mono ?_); rintro e w8 ⟨rfl, hb8⟩; have HB8 := Lib.hid hb8; clear hb8)
        refine hK.out _ _ (bdLo_on hbl hHeld HB8.out) (fun hHeld8 => ?_)
        clear hK K hHeld
        (try simp only [Act.put, List.setIfInBounds_toArray, List.set_cons_zero, List.set_cons_succ])
        (refine heldTake (i := 9) (oi := { dst := some 26, op := Op.binOp BinOp.add 9 (Operand.tmp 17) (Operand.tmp 25) 9, type := 9, pos := "ref.go:77", after := #[{ on := 0, ground := Ground.data }, { on := 8, ground := Ground.data }], guard := none }) (v := ?_) rfl (by kernel_rfl) (by kernel_rfl) (by kernel_rfl) (by assumption) ?_ ?_; rotate_left; focus (refine .inl ⟨by kernel_rfl, ?_⟩; intro w hSw; (try dsimp only at hSw); go_simp; (try with_reducible rfl)); skip)
        (try simp only [Act.put, List.setIfInBounds_toArray, List.set_cons_zero, List.set_cons_succ])
        refine wpAnyH_ready (rs := [16]) (by kernel_rfl) (by simp) ?_
        refine (AllReadyH.cons (o := { dst := some 33, op := Op.buildSlice 32 1 #[(0, Operand.tmp 32)], type := 32, pos := "ref.go:77", after := #[{ on := 15, ground := Ground.data }], guard := none }) rfl (fun K hK => ?_) AllReadyH.nil)
        refine step_build1 rfl _ rfl y.t rfl ?_; intro g16 wa16 hg16 hb16 hp16; have HB16 := Lib.hid hb16; have HP16 := Lib.hid hp16; clear hb16 hp16
        refine hK.out _ _ (bdLo_on hbl hHeld8 HB16.out) (fun hHeld16 => ?_)
        clear hK K hHeld8
        (try simp only [Act.put, List.setIfInBounds_toArray, List.set_cons_zero, List.set_cons_succ])
        refine wpAnyH_ready (rs := [17]) (by kernel_rfl) (by simp) ?_
        refine (AllReadyH.cons (o := { dst := some 34, op := Op.convert 32 9 (Operand.tmp 33), type := 9, pos := "ref.go:77", after := #[{ on := 16, ground := Ground.data }], guard := none }) rfl (fun K hK => ?_) AllReadyH.nil)
        go_simp; refine upon_str (l := [y.t]) (HP16.out) ?_; have HB17 := Lib.hid (Below.refl 0 w)
        refine hK.out _ _ hHeld16 (fun hHeld17 => ?_)
        clear hK K hHeld16
        (try simp only [Act.put, List.setIfInBounds_toArray, List.set_cons_zero, List.set_cons_succ])
        (refine heldTake (i := 18) (oi := { dst := some 35, op := Op.binOp BinOp.add 9 (Operand.tmp 26) (Operand.tmp 34) 9, type := 9, pos := "ref.go:77", after := #[{ on := 9, ground := Ground.data }, { on := 17, ground := Ground.data }], guard := none }) (v := ?_) rfl (by kernel_rfl) (by kernel_rfl) (by kernel_rfl) (by assumption) ?_ ?_; rotate_left; focus (refine .inl ⟨by kernel_rfl, ?_⟩; intro w hSw; (try dsimp only at hSw); go_simp; (try with_reducible rfl)); skip)
        (try simp only [Act.put, List.setIfInBounds_toArray, List.set_cons_zero, List.set_cons_succ])
        (refine heldTake (i := 19) (oi := { dst := some 3, op := Op.assign (Operand.tmp 35), type := 9, pos := "ref.go:77", after := #[{ on := 18, ground := Ground.data }, { on := 8, ground := Ground.chain }, { on := 0, ground := Ground.phase }, { on := 1, ground := Ground.phase }, { on := 2, ground := Ground.phase }, { on := 3, ground := Ground.phase }, { on := 4, ground := Ground.phase }, { on := 5, ground := Ground.phase }, { on := 6, ground := Ground.phase }, { on := 7, ground := Ground.phase }, { on := 8, ground := Ground.phase }, { on := 9, ground := Ground.phase }, { on := 10, ground := Ground.phase }, { on := 11, ground := Ground.phase }, { on := 12, ground := Ground.phase }, { on := 13, ground := Ground.phase }, { on := 14, ground := Ground.phase }, { on := 15, ground := Ground.phase }, { on := 16, ground := Ground.phase }, { on := 17, ground := Ground.phase }, { on := 18, ground := Ground.phase }], guard := none }) (v := ?_) rfl (by kernel_rfl) (by kernel_rfl) (by kernel_rfl) (by assumption) ?_ ?_; rotate_left; focus (refine .inl ⟨by kernel_rfl, ?_⟩; intro w hSw; (try dsimp only at hSw); go_simp; (try with_reducible rfl)); skip)
        (try simp only [Act.put, List.setIfInBounds_toArray, List.set_cons_zero, List.set_cons_succ])
        refine wpAnyH_done (by kernel_rfl) ?_ _
        refine NoPanic.normal ?_
        have hLast := hHeld17
        clear hHeld17
        go_wp2
        go_roundw
        case rel => exact ⟨k + 1, by omega, by go_num, by rw [HS.out, ← List.append_assoc, ← HT.out, ← List.append_assoc, S_append, S_append], hLast.1⟩
        case measure => simp [intOf]; omega
      · refine step_build1 rfl _ rfl y.t rfl ?_; intro g16 wa16 hg16 hb16 hp16; have HB16 := Lib.hid hb16; have HP16 := Lib.hid hp16; clear hb16 hp16
        refine hK.out _ _ (bdLo_on hbl hHeld HB16.out) (fun hHeld16 => ?_)
        clear hK K hHeld
        (try simp only [Act.put, List.setIfInBounds_toArray, List.set_cons_zero, List.set_cons_succ])
        refine wpAnyH_ready (rs := [8, 17]) (by kernel_rfl) (by simp) ?_
        refine (AllReadyH.cons (o := { dst := some 25, op := Op.call { callee := Callee.value (Operand.func 29), args := #[Operand.tmp 24], argTypes := #[3] }, type := 9, pos := "ref.go:77", after := #[{ on := 7, ground := Ground.data }], guard := none }) rfl (fun K hK => ?_) (AllReadyH.cons (o := { dst := some 34, op := Op.convert 32 9 (Operand.tmp 33), type := 9, pos := "ref.go:77", after := #[{ on := 16, ground := Ground.data }], guard := none }) rfl (fun K hK => ?_) AllReadyH.nil))
        · go_simp
          (go_at_call 29; (with_reducible refine (HCy.out _).mono ?_); rintro e w8 ⟨rfl, hb8⟩; have HB8 := Lib.hid hb8; clear hb8)
          refine hK.out _ _ (bdLo_on hbl hHeld16 HB8.out) (fun hHeld8 => ?_)
          clear hK K hHeld16
          (try simp only [Act.put, List.setIfInBounds_toArray, List.set_cons_zero, List.set_cons_succ])
          (refine heldTake (i := 9) (oi := { dst := some 26, op := Op.binOp BinOp.add 9 (Operand.tmp 17) (Operand.tmp 25) 9, type := 9, pos := "ref.go:77", after := #[{ on := 0, ground := Ground.data }, { on := 8, ground := Ground.data }], guard := none }) (v := ?_) rfl (by kernel_rfl) (by kernel_rfl) (by kernel_rfl) (by assumption) ?_ ?_; rotate_left; focus (refine .inl ⟨by kernel_rfl, ?_⟩; intro w hSw; (try dsimp only at hSw); go_simp; (try with_reducible rfl)); skip)
          (try simp only [Act.put, List.setIfInBounds_toArray, List.set_cons_zero, List.set_cons_succ])
          refine wpAnyH_ready (rs := [17]) (by kernel_rfl) (by simp) ?_
          refine (AllReadyH.cons (o := { dst := some 34, op := Op.convert 32 9 (Operand.tmp 33), type := 9, pos := "ref.go:77", after := #[{ on := 16, ground := Ground.data }], guard := none }) rfl (fun K hK => ?_) AllReadyH.nil)
          go_simp; refine upon_str (l := [y.t]) (((HP16.out).below HB8.out)) ?_; have HB17 := Lib.hid (Below.refl 0 w)
          refine hK.out _ _ hHeld8 (fun hHeld17 => ?_)
          clear hK K hHeld8
          (try simp only [Act.put, List.setIfInBounds_toArray, List.set_cons_zero, List.set_cons_succ])
          (refine heldTake (i := 18) (oi := { dst := some 35, op := Op.binOp BinOp.add 9 (Operand.tmp 26) (Operand.tmp 34) 9, type := 9, pos := "ref.go:77", after := #[{ on := 9, ground := Ground.data }, { on := 17, ground := Ground.data }], guard := none }) (v := ?_) rfl (by kernel_rfl) (by kernel_rfl) (by kernel_rfl) (by assumption) ?_ ?_; rotate_left; focus (refine .inl ⟨by kernel_rfl, ?_⟩; intro w hSw; (try dsimp only at hSw); go_simp; (try with_reducible rfl)); skip)
          (try simp only [Act.put, List.setIfInBounds_toArray, List.set_cons_zero, List.set_cons_succ])
          (refine heldTake (i := 19) (oi := { dst := some 3, op := Op.assign (Operand.tmp 35), type := 9, pos := "ref.go:77", after := #[{ on := 18, ground := Ground.data }, { on := 8, ground := Ground.chain }, { on := 0, ground := Ground.phase }, { on := 1, ground := Ground.phase }, { on := 2, ground := Ground.phase }, { on := 3, ground := Ground.phase }, { on := 4, ground := Ground.phase }, { on := 5, ground := Ground.phase }, { on := 6, ground := Ground.phase }, { on := 7, ground := Ground.phase }, { on := 8, ground := Ground.phase }, { on := 9, ground := Ground.phase }, { on := 10, ground := Ground.phase }, { on := 11, ground := Ground.phase }, { on := 12, ground := Ground.phase }, { on := 13, ground := Ground.phase }, { on := 14, ground := Ground.phase }, { on := 15, ground := Ground.phase }, { on := 16, ground := Ground.phase }, { on := 17, ground := Ground.phase }, { on := 18, ground := Ground.phase }], guard := none }) (v := ?_) rfl (by kernel_rfl) (by kernel_rfl) (by kernel_rfl) (by assumption) ?_ ?_; rotate_left; focus (refine .inl ⟨by kernel_rfl, ?_⟩; intro w hSw; (try dsimp only at hSw); go_simp; (try with_reducible rfl)); skip)
          (try simp only [Act.put, List.setIfInBounds_toArray, List.set_cons_zero, List.set_cons_succ])
          refine wpAnyH_done (by kernel_rfl) ?_ _
          refine NoPanic.normal ?_
          have hLast := hHeld17
          clear hHeld17
          go_wp2
          go_roundw
          case rel => exact ⟨k + 1, by omega, by go_num, by rw [HS.out, ← List.append_assoc, ← HT.out, ← List.append_assoc, S_append, S_append], hLast.1⟩
          case measure => simp [intOf]; omega
        · go_simp; refine upon_str (l := [y.t]) (HP16.out) ?_; have HB17 := Lib.hid (Below.refl 0 w)
          refine hK.out _ _ hHeld16 (fun hHeld17 => ?_)
          clear hK K hHeld16
          (try simp only [Act.put, List.setIfInBounds_toArray, List.set_cons_zero, List.set_cons_succ])
          refine wpAnyH_ready (rs := [8]) (by kernel_rfl) (by simp) ?_
          refine (AllReadyH.cons (o := { dst := some 25, op := Op.call { callee := Callee.value (Operand.func 29), args := #[Operand.tmp 24], argTypes := #[3] }, type := 9, pos := "ref.go:77", after := #[{ on := 7, ground := Ground.data }], guard := none }) rfl (fun K hK => ?_) AllReadyH.nil)
          go_simp
          (go_at_call 29; (with_reducible refine (HCy.out _).mono ?_); rintro e w8 ⟨rfl, hb8⟩; have HB8 := Lib.hid hb8; clear hb8)
          refine hK.out _ _ (bdLo_on hbl hHeld17 HB8.out) (fun hHeld8 => ?_)
          clear hK K hHeld17
          (try simp only [Act.put, List.setIfInBounds_toArray, List.set_cons_zero, List.set_cons_succ])
          (refine heldTake (i := 9) (oi := { dst := some 26, op := Op.binOp BinOp.add 9 (Operand.tmp 17) (Operand.tmp 25) 9, type := 9, pos := "ref.go:77", after := #[{ on := 0, ground := Ground.data }, { on := 8, ground := Ground.data }], guard := none }) (v := ?_) rfl (by kernel_rfl) (by kernel_rfl) (by kernel_rfl) (by assumption) ?_ ?_; rotate_left; focus (refine .inl ⟨by kernel_rfl, ?_⟩; intro w hSw; (try dsimp only at hSw); go_simp; (try with_reducible rfl)); skip)
          (try simp only [Act.put, List.setIfInBounds_toArray, List.set_cons_zero, List.set_cons_succ])
          (refine heldTake (i := 18) (oi := { dst := some 35, op := Op.binOp BinOp.add 9 (Operand.tmp 26) (Operand.tmp 34) 9, type := 9, pos := "ref.go:77", after := #[{ on := 9, ground := Ground.data }, { on := 17, ground := Ground.data }], guard := none }) (v := ?_) rfl (by kernel_rfl) (by kernel_rfl) (by kernel_rfl) (by assumption) ?_ ?_; rotate_left; focus (refine .inl ⟨by kernel_rfl, ?_⟩; intro w hSw; (try dsimp only at hSw); go_simp; (try with_reducible rfl)); skip)
          (try simp only [Act.put, List.setIfInBounds_toArray, List.set_cons_zero, List.set_cons_succ])
          (refine heldTake (i := 19) (oi := { dst := some 3, op := Op.assign (Operand.tmp 35), type := 9, pos := "ref.go:77", after := #[{ on := 18, ground := Ground.data }, { on := 8, ground := Ground.chain }, { on := 0, ground := Ground.phase }, { on := 1, ground := Ground.phase }, { on := 2, ground := Ground.phase }, { on := 3, ground := Ground.phase }, { on := 4, ground := Ground.phase }, { on := 5, ground := Ground.phase }, { on := 6, ground := Ground.phase }, { on := 7, ground := Ground.phase }, { on := 8, ground := Ground.phase }, { on := 9, ground := Ground.phase }, { on := 10, ground := Ground.phase }, { on := 11, ground := Ground.phase }, { on := 12, ground := Ground.phase }, { on := 13, ground := Ground.phase }, { on := 14, ground := Ground.phase }, { on := 15, ground := Ground.phase }, { on := 16, ground := Ground.phase }, { on := 17, ground := Ground.phase }, { on := 18, ground := Ground.phase }], guard := none }) (v := ?_) rfl (by kernel_rfl) (by kernel_rfl) (by kernel_rfl) (by assumption) ?_ ?_; rotate_left; focus (refine .inl ⟨by kernel_rfl, ?_⟩; intro w hSw; (try dsimp only at hSw); go_simp; (try with_reducible rfl)); skip)
          (try simp only [Act.put, List.setIfInBounds_toArray, List.set_cons_zero, List.set_cons_succ])
          refine wpAnyH_done (by kernel_rfl) ?_ _
          refine NoPanic.normal ?_
          have hLast := hHeld8
          clear hHeld8
          go_wp2
          go_roundw
          case rel => exact ⟨k + 1, by omega, by go_num, by rw [HS.out, ← List.append_assoc, ← HT.out, ← List.append_assoc, S_append, S_append], hLast.1⟩
          case measure => simp [intOf]; omega
    · have hkn : k = x.ls.length := by omega
      have HTT := Lib.hid (show t = hd ++ losL x.ls by rw [HT.out, hkn, List.take_length])
      clear hkn HT
      go_wp2
      go_loopw [3, 5] (fun s i wr => ∃ (j : Nat), j ≤ x.b.length ∧ i = .int .i64 j ∧ s = .string (S (t ++ bodyL (x.b.take j))) ∧ BxBd w w.heap.size x L l B c wr) (fun _ i _ => x.b.length - (intOf i).toNat)
      case atStart => exact ⟨0, Nat.zero_le _, rfl, by simp [bodyL], HB.out⟩
      case round =>
        obtain ⟨j, hj, rfl, rfl, hbx⟩ := hrel
        have HB2 := Lib.hid hbx
        obtain ⟨i0, i1⟩ := hbx.2
        have hbel := bxBd_bel hbx
        have hul := HBT.out j
        obtain ⟨u, hu⟩ : ∃ u, u = t ++ bodyL (x.b.take j) := ⟨_, rfl⟩
        have hun : u.length ≤ 66600 := by rw [hu, List.length_append]; omega
        have HU := Lib.hid hu
        rw [← hu]
        clear hbx hu hul
        by_cases hjl : j < x.b.length
        · obtain ⟨i, hx⟩ : ∃ i, x.b[j]? = some i := ⟨_, List.getElem?_eq_getElem hjl⟩
          obtain ⟨b, off, B1, d, rfl, hbl, ⟨k0, k1, k2, k3⟩, hll⟩ := (HI.out.below hbel) j i hx
          have hio := HOK.out i (List.mem_of_getElem? hx)
          have hrz := HRZ.out i (List.mem_of_getElem? hx)
          have HRP := Lib.hid (refPut_any i B1 d wr hio.1 hrz hll)
          have hpl := putL_len hio.1 hio.2
          have HS := Lib.hid (bodyL_snoc hx)
          obtain ⟨v, hv⟩ : ∃ v, v = putL i := ⟨_, rfl⟩
          rw [← hv] at HRP hpl HS
          have su := S_size u
          have sv := S_size v
          have q1 : ¬ 9223372036854775807 < (S u).size + (S v).size := by omega
          clear hx hv hio hrz hll hbel su sv
          go_wp2_with (go_at_call 32; go_must ((with_reducible refine HRP.out.mono ?_); rintro e w3 ⟨rfl, hb⟩; have H3 := Lib.hid (bxBd_on HB2.out hb); clear hb))
          go_roundw
          case rel => exact ⟨j + 1, by omega, by go_num, by rw [HS.out, ← List.append_assoc, ← HU.out, S_append], H3.out⟩
          case measure => simp [intOf]; omega
        · have hjn : j = x.b.length := by omega
          have hT : u = (hd ++ losL x.ls) ++ bodyL x.b := by rw [HU.out, HTT.out, hjn, List.take_length]
          have hPu : P = lebL (u.length : Int) ++ u := by rw [HP.out, ← hT]
          have HCu := Lib.hid (fun W => show Calls Tryz.prog 29 #[.int .i64 ((S u).size : Nat)] W fun e w' => e = .returned (.string (S (lebL (u.length : Int)))) ∧ Below W.heap.size W w' by rw [S_size]; exact HC.out u.length (by omega) W)
          have hcl := lebL_len (u.length : Int) (by omega)
          obtain ⟨v, hv⟩ : ∃ v, v = lebL (u.length : Int) := ⟨_, rfl⟩
          rw [← hv] at HCu hcl hPu
          have su := S_size u
          have sv := S_size v
          have q1 : ¬ 9223372036854775807 < (S v).size + (S u).size := by omega
          clear hjn hT hv hbel su sv
          subst hPu
          have e2 := S_append v u
          go_wp2_with (go_at_call 29; go_must ((with_reducible refine (HCu.out _).mono ?_); rintro e w3 ⟨rfl, hb⟩; have H3 := Lib.hid (bxBd_on HB2.out hb); clear hb))
          go_ret
          exact ⟨congrArg (fun z => Ending.returned (Value.string z)) e2, bxBd_bel H3.out⟩
end Go.Proofs.YtebgmfjgapmpfabGreatDoor
