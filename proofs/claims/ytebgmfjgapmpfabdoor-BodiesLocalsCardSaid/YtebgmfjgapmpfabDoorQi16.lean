/- Single steps of a region that draws its order: what makes memory or writes. -/
import Derived.Test.YtebgmfjgapmpfabDoorQi01
import Derived.Test.YtebgmfjgapmpfabDoorQi03
import Derived.Test.YtebgmfjgapmpfabDoorQi15
import Derived.Test.YtebgmfjgapmpfabDoorQi02
import Derived.Test.YtebgmfjgapmpfabDoorQi10
import Derived.Test.YtebgmfjgapmpfabDoorQi14
import Derived.Deep.CutBlock
import Derived.Deep.DeepCutAuto
namespace Go.Proofs.YtebgmfjgapmpfabDoor
open Go.RowKit
set_option linter.unusedVariables false

/-- []byte(s): its block. -/
def convRow (W : World) (s : ByteArray) : Obj := .cells (bytesRow s (grownCap W s.size 0 5)) 5 ((bytesRow s (grownCap W s.size 0 5)).size, (bytesRow s (grownCap W s.size 0 5)).size + 1)
theorem conv_run (s : ByteArray) (W : World) : (convert 9 41 (.string s)).run Tryd.prog W = .ok (.slice (some ⟨W.heap.size, 0, none⟩) s.size (grownCap W s.size 0 5)) (W.drew.alloc (convRow W s)) :=
  run_bytes_of_string (P := Tryd.prog) W 9 41 5 s Tryd.underlying9 Tryd.underlying41 Tryd.underlying5
theorem conv_lies (W : World) (l : List UInt8) : Lies (W.drew.alloc (convRow W (S l))) (W.heap.size + 1) (some ⟨W.heap.size, 0, none⟩) (cells (nums l)) := by
  intro i v hv
  refine ⟨W.heap.size, 0, rfl, by omega, ?_⟩
  have hi : i < l.length := by
    have := (List.getElem?_eq_some_iff.1 hv).1
    rw [cells_length, nums_length] at this
    exact this
  rw [Nat.zero_add, ← hv]
  have hr : (bytesRow (S l) (grownCap W (S l).size 0 5))[i]? = (cells (nums l))[i]? := by
    unfold bytesRow S cells nums
    simp [Array.getElem?_append, hi]
  rw [← hr]
  exact cell_of_row _ W.heap.size i _ _ _ (heap_alloc_new W.drew _)
theorem Lies.put {w : World} {B g bb : Nat} {vs : List Value} (h : Lies w B (some ⟨g, 0, none⟩) vs) (hne : g ≠ bb) (i : Nat) (v : Value) : Lies (w.setCell ⟨bb, i, none⟩ v) B (some ⟨g, 0, none⟩) vs := fun j u hu => by
  obtain ⟨b, off, e, h1, h2⟩ := h j u hu
  injection e with e
  injection e with e1 e2
  subst e1; subst e2
  refine ⟨g, 0, rfl, h1, ?_⟩
  rw [← h2]
  exact World.cell?_of_block (a := ⟨g, 0 + j, none⟩) (heap_setCell_other w ⟨bb, i, none⟩ g v hne)
section
variable {w : World} {ops : Array Oper} {o : Oper} {a : Act} {K : Act → World → Prop} {Q : Exit → Act → World → Prop} {E : Prop}
theorem step_value {v : Value} {w' : World} (hgd : o.guard = none) (h : (execOp a.eval o).run Tryd.prog w = .ok (.value v) w') (hK : K (a.put o.dst v) w') :
    if Region.wanted o (yielded ops a.tmps) = true then Oper.wp Tryd.prog o a w K Q else E := by
  have hw : Region.wanted o (yielded ops a.tmps) = true := by simp [Region.wanted, hgd]
  rw [if_pos hw]
  unfold Oper.wp
  rw [h]
  exact hK
theorem step_skip {w' : World} (hgd : o.guard = none) (h : (execOp a.eval o).run Tryd.prog w = .ok .skip w') (hK : K (a.put o.dst undef) w') :
    if Region.wanted o (yielded ops a.tmps) = true then Oper.wp Tryd.prog o a w K Q else E := by
  have hw : Region.wanted o (yielded ops a.tmps) = true := by simp [Region.wanted, hgd]
  rw [if_pos hw]
  unfold Oper.wp
  rw [h]
  exact hK
/-- A cell for a slice of bytes is made. -/
theorem step_alloc (hgd : o.guard = none) (ho : o.op = .alloc 41) (h : ∀ bb wa, w.heap.size ≤ bb → bb < wa.heap.size → Below w.heap.size w wa → Whole wa bb 41 #[.slice none 0 0] → K (a.put o.dst (.pointer (some ⟨bb, 0, none⟩))) wa) :
    if Region.wanted o (yielded ops a.tmps) = true then Oper.wp Tryd.prog o a w K Q else E := by
  refine step_value (w' := w.alloc (.cells #[.slice none 0 0] 41)) hgd ?_ (h _ _ (Nat.le_refl _) (by simp) (below_box w _) (Whole.made w _ _))
  cases o
  subst ho
  simp [go_sem]
/-- []byte(s). -/
theorem step_conv (hgd : o.guard = none) (x : Operand) (ho : o.op = .convert 9 41 x) (l : List UInt8) (hx : a.eval x = .string (S l))
    (h : ∀ g cap wc, w.heap.size ≤ g → g < wc.heap.size → l.length ≤ cap → Below w.heap.size w wc → Lies wc wc.heap.size (some ⟨g, 0, none⟩) (cells (nums l)) → K (a.put o.dst (.slice (some ⟨g, 0, none⟩) l.length cap)) wc) :
    if Region.wanted o (yielded ops a.tmps) = true then Oper.wp Tryd.prog o a w K Q else E := by
  have hr := conv_run (S l) w
  have hg := grownCap_ge w (S l).size 0 5
  rw [S_size] at hg
  refine step_value (v := .slice (some ⟨w.heap.size, 0, none⟩) l.length (grownCap w l.length 0 5)) (w' := w.drew.alloc (convRow w (S l))) hgd ?_ (h _ _ _ (Nat.le_refl _) (by simp) hg ((Below.refl _ _).drew.alloc (Nat.le_refl _) _) ((conv_lies w l).more (by simp)))
  cases o
  subst ho
  rw [S_size] at hr
  clear h
  generalize a.eval = ev at hx ⊢
  simp [go_sem, hx, hr]
/-- The cell is written. -/
theorem step_store (hgd : o.guard = none) (pa pv : Operand) (ho : o.op = .store 41 pa pv) (bb : Nat) (A : Option Addr) (n c : Nat) (hx : a.eval pa = .pointer (some ⟨bb, 0, none⟩)) (hv : a.eval pv = .slice A n c) {y : Value}
    (hw : Whole w bb 41 #[y]) (h : K (a.put o.dst undef) (w.setCell ⟨bb, 0, none⟩ (.slice A n c))) :
    if Region.wanted o (yielded ops a.tmps) = true then Oper.wp Tryd.prog o a w K Q else E := by
  have c0 := hw.cell 0
  have f0 := hw.frozen 0
  simp only [List.getElem?_toArray, List.getElem?_cons_zero] at c0
  refine step_skip hgd ?_ h
  cases o
  subst ho
  clear h
  generalize a.eval = ev at hx hv ⊢
  simp [go_sem, hx, hv, c0, f0]
end
end Go.Proofs.YtebgmfjgapmpfabDoor

/- The reference's Types, Count, Put of bodies. -/
namespace Go.Proofs.YtebgmfjgapmpfabDoor
open Go.RowKit
set_option linter.unusedVariables false
set_option maxRecDepth 100000

section
variable {w : World} {ops : Array Oper} {o : Oper} {a : Act} {K : Act → World → Prop} {Q : Exit → Act → World → Prop} {E : Prop}
theorem step_build1 (hgd : o.guard = none) (x : Operand) (ho : o.op = .buildSlice 41 1 #[(0, x)]) (c : UInt8) (hx : a.eval x = .int .u8 c.toNat)
    (h : ∀ g wa, w.heap.size ≤ g → Below w.heap.size w wa → Pc (some ⟨g, 0, none⟩) 1 [c] wa → K (a.put o.dst (.slice (some ⟨g, 0, none⟩) 1 1)) wa) :
    if Region.wanted o (yielded ops a.tmps) = true then Oper.wp Tryd.prog o a w K Q else E := by
  have hl := lies_made w [c] (0, 0)
  refine step_value (v := .slice (some ⟨w.heap.size, 0, none⟩) 1 1) (w' := w.alloc (.cells (cells (nums [c])).toArray 5)) hgd ?_ (h _ _ (Nat.le_refl _) (below_box w _) ⟨by rw [size_box]; exact hl, fun e => by cases e⟩)
  cases o
  subst ho
  clear h
  generalize a.eval = ev at hx ⊢
  simp [go_sem, hx, cells, nums]
end
/-- string(b), behind the walk's own simplifying. -/
theorem upon_str {o : Oper} {a : Act} {K : Act → World → Prop} {Q : Exit → Act → World → Prop} {W : World} {A : Option Addr} {c : Nat} {l : List UInt8} (hp : Pc A c l W) (h : K (a.put o.dst (.string (S l))) W) :
    Oper.upon Tryd.prog o a K Q (((convert 41 9 (.slice A l.length c)).run Tryd.prog W).andThen fun v w' => Result.ok (Next.value v) w') := by
  rw [str_any hp.lies c 9 Tryd.underlying9]
  exact h
theorem typL_snoc {l : List Lo} {k : Nat} {x : Lo} (h : l[k]? = some x) : typL (l.take (k + 1)) = typL (l.take k) ++ List.replicate x.n.toNat x.t := by
  unfold typL
  rw [List.take_add_one, h, List.flatMap_append]
  simp
theorem typL_take (l : List Lo) (k : Nat) : (typL (l.take k)).length ≤ (typL l).length := by
  conv => rhs; rw [← List.take_append_drop k l]
  unfold typL
  rw [List.flatMap_append, List.length_append]
  omega
/-- One byte as a string. -/
theorem str_byte (W : World) (t : UInt8) : (convert 41 9 (.slice (some ⟨W.heap.size, 0, none⟩) 1 1)).run Tryd.prog (W.alloc (.cells #[.int .u8 t.toNat] 5)) = .ok (.string (S [t])) (W.alloc (.cells #[.int .u8 t.toNat] 5)) :=
  str_any (lies_made W [t] (0, 0)) 1 9 Tryd.underlying9
set_option maxHeartbeats 4000000 in
theorem rtypes_any {w : World} {A : Option Addr} {c : Nat} {l : List Lo} {ps rs : List UInt8} (hl : Los w A l) (h0 : 0 ≤ locGo 0 l) (hps : ps.length ≤ 100000) (hn : (l.length : Int) ≤ 9223372036854775807) :
    Calls Tryd.prog 9 #[.agg #[.string (S ps), .string (S rs)], .slice A l.length c] w fun e w' => e = .returned (.string (S (ps ++ typL l))) ∧ Below w.heap.size w w' := by
  have HL := Lib.hid hl
  have hB0 := below_box w (.cells #[.string (S ps), .string (S rs)] 23)
  have HB0 := Lib.hid hB0
  have hb0 := (Whole.made w 23 #[.string (S ps), .string (S rs)]).cell 0
  simp only [List.getElem?_toArray, List.getElem?_cons_zero] at hb0
  have htl := (typL_len 0 l h0).2 (by omega)
  have HTK := Lib.hid (fun k => typL_take l k)
  obtain ⟨P, hP⟩ : ∃ P, P = ps ++ typL l := ⟨_, rfl⟩
  have HP := Lib.hid hP
  rw [← hP]
  obtain ⟨n, hnn⟩ : ∃ n, n = l.length := ⟨_, rfl⟩
  have HNN := Lib.hid hnn
  rw [← hnn] at hn ⊢
  clear hl hP hB0 hnn h0
  go_enter Tryd.func9, Tryd.ntmps9
  go_wp2
  generalize w.alloc (.cells #[.string (S ps), .string (S rs)] 23) = W0 at *
  go_loopw [5, 6] (fun s i wr => ∃ (k : Nat), k ≤ n ∧ i = .int .i64 k ∧ s = .string (S (ps ++ typL (l.take k))) ∧ Below w.heap.size w wr) (fun _ i _ => n - (intOf i).toNat)
  case atStart => exact ⟨0, Nat.zero_le _, rfl, by simp [typL], HB0.out⟩
  case round =>
    obtain ⟨k, hk, rfl, rfl, hb⟩ := hrel
    by_cases hlt : k < n
    · obtain ⟨x, hx⟩ : ∃ x, l[k]? = some x := ⟨_, List.getElem?_eq_getElem (by rw [← HNN.out]; exact hlt)⟩
      have hfive := fun W (h : Below w.heap.size w W) => (HL.out.below h) k x hx
      have HS := Lib.hid (typL_snoc hx)
      have hks := HTK.out (k + 1)
      rw [HS.out, List.length_append, List.length_replicate] at hks
      have hxn := x.n.toNat_lt
      have wv : IntKind.i64.wrap (x.n.toNat : Int) = x.n.toNat := by rw [IntKind.wrap_i64]; omega
      have HF := Lib.hid hfive
      have HB := Lib.hid hb
      obtain ⟨t0, ht0⟩ : ∃ t0, t0 = typL (l.take k) := ⟨_, rfl⟩
      rw [← ht0] at hks HS ⊢
      clear hb hx hfive ht0
      go_wp2
      go_loopw [5, 7] (fun s i wr => ∃ (j : Nat), j ≤ x.n.toNat ∧ i = .int .i64 j ∧ s = .string (S (ps ++ t0 ++ List.replicate j x.t)) ∧ Below w.heap.size w wr) (fun _ i _ => x.n.toNat - (intOf i).toNat)
      case atStart => exact ⟨0, Nat.zero_le _, rfl, by simp, HB.out⟩
      case round =>
        obtain ⟨j, hj, rfl, rfl, hb⟩ := hrel
        obtain ⟨b, off, hA, hbl, c0, c1⟩ := HF.out _ hb
        subst hA
        have HB2 := Lib.hid hb
        by_cases hjl : j < x.n.toNat
        · obtain ⟨u, hu⟩ : ∃ u, u = ps ++ t0 ++ List.replicate j x.t := ⟨_, rfl⟩
          have hul : u.length ≤ 200000 := by rw [hu]; simp only [List.length_append, List.length_replicate]; omega
          have HU := Lib.hid hu
          rw [← hu]
          have su := S_size u
          have st := S_size [x.t]
          rw [List.length_singleton] at st
          have q1 : ¬ 9223372036854775807 < (S u).size + (S [x.t]).size := by omega
          have hcv := str_byte wr x.t
          clear hb hu su st
          go_wp2
          go_roundw
          case rel => exact ⟨j + 1, by omega, by go_num, by rw [List.replicate_succ', ← List.append_assoc, ← HU.out, S_append], HB2.out.trans ((below_box wr _).mono HB2.out.size)⟩
          case measure => simp [intOf]; omega
        · have hjx : j = x.n.toNat := by omega
          clear hb
          go_wp2
          go_roundw
          case rel => exact ⟨k + 1, by omega, by go_num, by rw [HS.out, hjx, List.append_assoc], HB2.out⟩
          case measure => simp [intOf]; omega
    · have hkn : k = l.length := by rw [← HNN.out]; omega
      have HB := Lib.hid hb
      have e : ps ++ typL (l.take k) = P := by rw [HP.out, hkn, List.take_length]
      clear hb hkn
      rw [e]
      go_wp2
      go_ret
      exact ⟨rfl, HB.out⟩
end Go.Proofs.YtebgmfjgapmpfabDoor

/- bodies.Types: bytes of the call's own behind a string's bytes. -/
namespace Go.Proofs.YtebgmfjgapmpfabDoor
open Go.RowKit
set_option linter.unusedVariables false
set_option maxRecDepth 100000

/-- A slice of bytes of the call's own, from its block's beginning, marked behind its end or not. -/
def RowK (w : World) (base : Nat) (v : Value) (xs : List UInt8) : Prop :=
  ∃ g cap, v = .slice (some ⟨g, 0, none⟩) xs.length cap ∧ base ≤ g ∧ g < w.heap.size ∧ cap ≤ maxLen ∧ Buff w g cap xs
section
variable {w w' : World} {base : Nat} {v : Value} {xs : List UInt8}
theorem RowK.later (h : RowK w base v xs) (hb : Below w.heap.size w w') : RowK w' base v xs := by
  obtain ⟨g, cap, e, h1, h2, h3, h4⟩ := h
  exact ⟨g, cap, e, h1, Nat.lt_of_lt_of_le h2 hb.size, h3, h4.grown (gb_of_below none hb) h2 (by simp)⟩
theorem RowK.alloc (h : RowK w base v xs) (o : Obj) : RowK (w.alloc o) base v xs := h.later (below_box w o)
theorem RowK.pc (h : RowK w base v xs) : ∃ A c, v = .slice A xs.length c ∧ Pc A c xs w := by
  obtain ⟨g, cap, e, h1, h2, h3, h4⟩ := h
  exact ⟨_, cap, e, h4.lies h2, fun e => by cases e⟩
end
theorem conv_rowK (W : World) (l : List UInt8) (hl : l.length ≤ 100000) : ∃ cap wc, (convert 9 41 (.string (S l))).run Tryd.prog W = .ok (.slice (some ⟨W.heap.size, 0, none⟩) l.length cap) wc ∧ RowK wc W.heap.size (.slice (some ⟨W.heap.size, 0, none⟩) l.length cap) l ∧ Below W.heap.size W wc := by
  have hs := S_size l
  have hcap := grownCap_ge W (S l).size 0 5
  have hmax := grownCap_le_maxLen W (S l).size 0 5 (by unfold maxLen; omega)
  have hrun := conv_run (S l) W
  have hlies := conv_lies W l
  unfold convRow at hrun hlies
  have hsz : (bytesRow (S l) (grownCap W (S l).size 0 5)).size = grownCap W (S l).size 0 5 := by
    unfold bytesRow
    rw [Array.size_append, Array.size_map, Array.size_replicate]
    have : (S l).data.size = (S l).size := rfl
    omega
  rw [hsz] at hrun hlies
  obtain ⟨cap, hc⟩ : ∃ cap, cap = grownCap W (S l).size 0 5 := ⟨_, rfl⟩
  rw [← hc] at hrun hlies hsz hcap hmax
  have hheap := heap_alloc_new W.drew (.cells (bytesRow (S l) cap) 5 (cap, cap + 1))
  refine ⟨cap, _, by rw [hrun, hs], ⟨W.heap.size, cap, rfl, Nat.le_refl _, by simp, hmax, ⟨fun j hj => ?_, fun j hj => ?_, fun j v hv => ?_, by omega⟩⟩, (Below.refl _ _).drew.alloc (Nat.le_refl _) _⟩
  · exact ⟨_, (cell_of_row _ W.heap.size j _ _ _ hheap).trans (Array.getElem?_eq_getElem (by omega))⟩
  · have := World.frozen?_alloc_mark W.drew (bytesRow (S l) cap) 5 cap (cap + 1) j
    have e : W.drew.heap.size = W.heap.size := rfl
    rw [e] at this
    rw [this]
    have : ¬ cap ≤ j := by omega
    simp [this]
  · obtain ⟨b, off, e, _, h2⟩ := hlies j v hv
    injection e with e
    injection e with e1 e2
    subst e1; subst e2
    rwa [Nat.zero_add] at h2
section
variable {w : World} {ops : Array Oper} {rest : List Oper} {o : Oper} {a : Act} {Q : Exit → Act → World → Prop}
/-- append onto such bytes. -/
theorem rowK_app (hgd : o.guard = none) (s x : Operand)
    (ho : o.op = .call { callee := .builtin .append, args := #[s, x], argTypes := #[41, 41] })
    (B : Nat) (v : Value) (xs : List UInt8) (hs : a.eval s = v) (hr : RowK w B v xs)
    (g2 m c : Nat) (news : List UInt8) (hx : a.eval x = .slice (some ⟨g2, 0, none⟩) m c) (hl : news.length = m) (hn : Lies w w.heap.size (some ⟨g2, 0, none⟩) (cells (nums news)))
    (hb : xs.length + news.length ≤ 1000000) (hB : B ≤ w.heap.size)
    (h : ∀ v' w', RowK w' B v' (xs ++ news) → Below B w w' → wpList Tryd.prog ops Q rest (a.put o.dst v') w') : wpList Tryd.prog ops Q (o :: rest) a w := by
  obtain ⟨g, cap, rfl, hg1, hg2, hcm, hbu⟩ := hr
  obtain ⟨i0, hi0, hz0, hz1, hz2⟩ := info_parts infoB
  have hcl : (cells (nums news)).length = m := by rw [cnl]; exact hl
  have hcx : (cells (nums xs)).length = xs.length := cnl xs
  have hnew : ∀ j v, (cells (nums news))[j]? = some v → w.cell? ((⟨g2, 0, none⟩ : Addr).add j) = some v := fun j v hv => by
    obtain ⟨b2, o2, e, _, hc⟩ := hn j v hv
    simp only [Option.some.injEq, Addr.mk.injEq] at e
    obtain ⟨rfl, rfl, _⟩ := e
    rw [Go.WideShapes.add_plain]; exact hc
  have hold : ∀ j v, (cells (nums xs))[j]? = some v → w.cell? ((⟨g, 0, none⟩ : Addr).add j) = some v := fun j v hv => by
    rw [Go.WideShapes.add_plain, Nat.zero_add]; exact hbu.read j v hv
  have hfit := hbu.room
  by_cases hroom : xs.length + m ≤ cap
  · have hst := run_storeCells_cells (P := Tryd.prog) g xs.length (cells (nums news)) 0 w (fun j hj => by rw [hcl] at hj; obtain ⟨u, hu⟩ := hbu.some' (xs.length + j) (by omega); rw [Nat.add_zero, hu]; rfl) (fun j hj => by rw [hcl] at hj; rw [Nat.add_zero]; exact hbu.open' _ (by omega)) bytes_one
    have hf := run_firstCells_some (P := Tryd.prog) w 1 m ⟨g2, 0, none⟩ m c (cells (nums news)) (by rw [hcl, Nat.mul_one]) hnew
    have hrun : (Builtin.append_ #[41, 41] o.type #[.slice (some ⟨g, 0, none⟩) xs.length cap, .slice (some ⟨g2, 0, none⟩) m c]).run Tryd.prog w = .ok (.slice (some ⟨g, 0, none⟩) (xs.length + m) cap) (w.setCells g xs.length (cells (nums news))) := by
      rw [Nat.add_zero] at hst
      simp [Builtin.append_, run_underlying Tryd.underlying41, sizeOf, typeInfo, hi0, hz1, Builtin.lenOf, hroom, hf, Addr.add_lit, hst]
    have hgb := gb_setCells g (cells (nums news)) xs.length (gb_refl w (some g))
    refine Lib.wpList_append_run _ hgd s x _ _ ho _ _ hs hx _ _ hrun (h _ _ ⟨g, cap, by rw [List.length_append, hl], hg1, Nat.lt_of_lt_of_le hg2 hgb.size, hcm, hbu.more (by omega)⟩ (Below.grown (Below.refl _ _) hgb hB (fun k e => by injection e with e; omega)))
  · have hrun := run_append_grow (P := Tryd.prog) w 41 o.type 5 i0 _ Tryd.underlying41 hi0 hz0 ⟨g, 0, none⟩ xs.length cap (cells (nums xs)) (by rw [hcx, hz1]; omega) hold ⟨g2, 0, none⟩ m c (cells (nums news)) (by rw [hcl, hz1]; omega) hnew (by omega) (by omega) (growslice_fits_wide (by omega) (by rw [hz2]; omega))
    have hG := grownCap_ge w (xs.length + m) cap 5
    have hM : grownCap w (xs.length + m) cap 5 ≤ maxLen := grownCap_le_maxLen w _ _ _ (by unfold maxLen; omega)
    refine Lib.wpList_append_run _ hgd s x _ _ ho _ _ hs hx _ _ hrun (h _ _ ⟨w.heap.size, _, by rw [List.length_append, hl], hB, ?_, hM, ?_⟩ (((Below.refl _ _).drew.alloc (Nat.le_refl _) _).mono hB))
    · simp
    · have e : cells (nums (xs ++ news)) = cells (nums xs) ++ cells (nums news) := by rw [nums_append]; unfold cells; rw [List.map_append]
      have e1 : (Value.int .u8 0).cells.size = 1 := rfl
      refine ⟨fun j hj => ⟨_, (cell_of_row _ w.heap.size j _ _ _ (heap_alloc_new w.drew _)).trans (Array.getElem?_eq_getElem ?_)⟩, fun j hj => ?_, fun j v hv => ?_, ?_⟩
      · simp only [Array.size_append, size_zeroCells, List.size_toArray, hcx, hcl, e1]
        omega
      · exact (Whole.made w.drew 5 _).frozen j
      · refine (cell_of_row _ w.heap.size j _ _ _ (heap_alloc_new w.drew _)).trans ?_
        rw [e] at hv
        have hj := (List.getElem?_eq_some_iff.1 hv).1
        rw [List.length_append] at hj
        rw [← hv, ← Array.getElem?_toList]
        simp only [Array.toList_append, List.append_assoc]
        rw [← List.append_assoc, List.getElem?_append_left (by rw [List.length_append]; exact hj)]
      · rw [List.length_append, hl]; exact hG
end
set_option maxHeartbeats 4000000 in
theorem bdtypes_any {w : World} {A : Option Addr} {c : Nat} {l : List Lo} {ps rs : List UInt8} (hl : Los w A l) (hps : ps.length ≤ 100000) (hn : (l.length : Int) ≤ 9223372036854775807) :
    Calls Tryd.prog 7 #[.agg #[.string (S ps), .string (S rs)], .slice A l.length c] w fun e w' => e = .returned (.tuple #[.string (S (if locGo 0 l < 0 then [] else ps ++ typL l)), .int .i64 (cntE l)]) ∧ Below w.heap.size w w' := by
  have HB0 := Lib.hid (below_box w (.cells #[.string (S ps), .string (S rs)] 23))
  have HW0 := Lib.hid (Whole.made w 23 #[.string (S ps), .string (S rs)])
  have hcn := cnt_any (c := c) (hl.below HB0.out) hn
  have HL := Lib.hid hl
  by_cases hz : locGo 0 l < 0
  · have e := locGo_ge _ _ hz
    rw [if_pos hz, (cnt_no e).2]
    rw [(cnt_no e).1, (cnt_no e).2] at hcn
    have HC := Lib.hid hcn
    clear hl hz e hcn
    go_enter Tryd.func7, Tryd.ntmps7
    go_wp2_with (go_at_call 6; go_must ((with_reducible refine HC.out.mono ?_); rintro e w1 ⟨rfl, hb⟩; have H1 := Lib.hid (HB0.out.trans (hb.mono HB0.out.size)); clear hb))
    go_ret2
    exact ⟨rfl, H1.out⟩
  · obtain ⟨q, hq⟩ : ∃ q : Nat, locGo 0 l = (q : Int) := ⟨(locGo 0 l).toNat, by omega⟩
    rw [if_neg hz, (cnt_yes hq).2]
    rw [(cnt_yes hq).1, (cnt_yes hq).2] at hcn
    have htl := (typL_len 0 l (by omega)).2 (by omega)
    have HTK := Lib.hid (fun k => typL_take l k)
    have HC := Lib.hid hcn
    obtain ⟨P, hP⟩ : ∃ P, P = ps ++ typL l := ⟨_, rfl⟩
    have HP := Lib.hid hP
    rw [← hP]
    obtain ⟨n, hnn⟩ : ∃ n, n = l.length := ⟨_, rfl⟩
    have HNN := Lib.hid hnn
    rw [← hnn] at hn HC ⊢
    clear hl hz hcn hq hP hnn
    go_enter Tryd.func7, Tryd.ntmps7
    go_wp2_with (go_at_call 6; go_must ((with_reducible refine HC.out.mono ?_); rintro e w1 ⟨rfl, hb⟩; have H1 := Lib.hid (HB0.out.trans (hb.mono HB0.out.size)); have b0 := (HW0.out.below hb).cell 0; simp only [List.getElem?_toArray, List.getElem?_cons_zero] at b0; obtain ⟨cap, wc, hcv, hrk, hbc⟩ := conv_rowK w1 ps hps; have HRK := Lib.hid hrk; have HBC := Lib.hid (H1.out.trans (hbc.mono H1.out.size)); clear hb hrk hbc))
    clear hcv b0
    have hz1 := H1.out.size
    go_loopw [8, 24] (fun v i wr => ∃ (k : Nat), k ≤ n ∧ i = .int .i64 k ∧ RowK wr w.heap.size v (ps ++ typL (l.take k)) ∧ Below w.heap.size w wr) (fun _ i _ => n - (intOf i).toNat)
    case atStart => exact ⟨0, Nat.zero_le _, rfl, by obtain ⟨g, cp, e, a1, a2⟩ := HRK.out; exact ⟨g, cp, by rw [e]; simp [typL], Nat.le_trans hz1 a1, by simpa [typL] using a2⟩, HBC.out⟩
    case round =>
      obtain ⟨k, hk, rfl, hr, hb⟩ := hrel
      have hzr := hb.size
      by_cases hlt : k < n
      · obtain ⟨x, hx⟩ : ∃ x, l[k]? = some x := ⟨_, List.getElem?_eq_getElem (by rw [← HNN.out]; exact hlt)⟩
        obtain ⟨b, off, rfl, hbl, c0, c1⟩ := (HL.out.below hb) k x hx
        have HS := Lib.hid (typL_snoc hx)
        have hks := HTK.out (k + 1)
        rw [HS.out, List.length_append, List.length_replicate] at hks
        have hxn := x.n.toNat_lt
        have wv : IntKind.i64.wrap (x.n.toNat : Int) = x.n.toNat := by rw [IntKind.wrap_i64]; omega
        have hbx := hb.alloc hzr (.cells #[.int .u32 x.n.toNat, .int .u8 x.t.toNat] 63)
        have hbb := hbx.alloc hbx.size (.cells #[.int .u8 x.t.toNat] 5)
        have hm2 := made_2 wr (.cells #[.int .u32 x.n.toNat, .int .u8 x.t.toNat] 63) 5 #[.int .u8 x.t.toNat]
        have HRE := Lib.hid (rep_any (n := x.n.toNat) (t := x.t) (hm2.cell 0) (by omega))
        have HBB := Lib.hid hbb
        have HRB := Lib.hid ((hr.alloc (.cells #[.int .u32 x.n.toNat, .int .u8 x.t.toNat] 63)).alloc (.cells #[.int .u8 x.t.toNat] 5))
        obtain ⟨u, hu⟩ : ∃ u, u = ps ++ typL (l.take k) := ⟨_, rfl⟩
        have hul : u.length ≤ 200000 := by rw [hu, List.length_append]; omega
        have HU := Lib.hid hu
        rw [← hu] at HRB
        obtain ⟨y, hy⟩ : ∃ y, y = List.replicate x.n.toNat x.t := ⟨_, rfl⟩
        have hyl : y.length = x.n.toNat := by rw [hy, List.length_replicate]
        rw [← hy] at HRE HS
        have HYL := Lib.hid hyl
        have HSZ := Lib.hid (show u.length + y.length ≤ 1000000 by omega)
        clear hb hx hr hbx hbb hm2 hu hy hyl hul hks
        go_wp2_with (first
          | (go_at_call 22; go_must ((with_reducible refine HRE.out.mono ?_); intro e w3 hq; obtain ⟨g3, c3, rfl, hp3, hb3⟩ := hq; have HP3 := Lib.hid hp3; have HR3 := Lib.hid (HRB.out.later hb3); have HB3 := Lib.hid (HBB.out.trans (hb3.mono HBB.out.size)); have hz3 := HB3.out.size; clear hp3 hb3))
          | (at_builtin; go_must (refine rowK_app rfl _ _ rfl w.heap.size _ u rfl HR3.out g3 x.n.toNat c3 y rfl HYL.out HP3.out.lies HSZ.out hz3 ?_; intro v4 w4 hr4 hb4; have HR4 := Lib.hid hr4; have HB4 := Lib.hid (HB3.out.trans hb4); clear hr4 hb4)))
        go_roundw
        case rel => exact ⟨k + 1, by omega, by go_num, by rw [HS.out, ← List.append_assoc, ← HU.out]; exact HR4.out, HB4.out⟩
        case measure => simp [intOf]; omega
      · have hkn : k = l.length := by rw [← HNN.out]; omega
        rw [hkn, List.take_length, ← HP.out] at hr
        obtain ⟨A2, c2, rfl, hpc⟩ := hr.pc
        have hcv := str_any hpc.lies c2 9 Tryd.underlying9
        have HB := Lib.hid hb
        clear hb hr hkn hpc
        go_wp2
        go_ret2
        exact ⟨rfl, HB.out⟩
end Go.Proofs.YtebgmfjgapmpfabDoor

/- The reference's Count, Put of bodies. -/
namespace Go.Proofs.YtebgmfjgapmpfabDoor
open Go.RowKit
set_option linter.unusedVariables false
set_option maxRecDepth 100000

/-- The groups' bytes; a body's, behind its size; all of them. -/
noncomputable def losL (l : List Lo) : List UInt8 := l.flatMap fun x => lebL x.n.toNat ++ [x.t]
noncomputable def bputL (x : Bd) : List UInt8 := (lebL x.ls.length ++ losL x.ls) ++ bodyL x.b
noncomputable def codeL (x : Bd) : List UInt8 := lebL (bputL x).length ++ bputL x
theorem losL_snoc {l : List Lo} {k : Nat} {x : Lo} (h : l[k]? = some x) : losL (l.take (k + 1)) = losL (l.take k) ++ (lebL x.n.toNat ++ [x.t]) := by
  unfold losL
  rw [List.take_add_one, h, List.flatMap_append]
  simp
theorem losL_len : ∀ l : List Lo, (losL l).length ≤ l.length * 11
  | [] => by simp [losL]
  | x :: r => by
    have h1 := losL_len r
    have h2 := lebL_len (x.n.toNat : Int) (by have := x.n.toNat_lt; omega)
    unfold losL at h1 ⊢
    simp only [List.flatMap_cons, List.length_append, List.length_cons, List.length_nil]
    omega
theorem losL_take (l : List Lo) (k : Nat) (h : l.length ≤ 50) : (losL (l.take k)).length ≤ 550 := by
  have h1 := losL_len (l.take k)
  have h2 : (l.take k).length ≤ l.length := by rw [List.length_take]; omega
  omega
theorem bodyL_take {l : List I} (hok : ∀ i ∈ l, i.Ok ∧ i.l.length ≤ 100) (h : l.length ≤ 60) (k : Nat) : (bodyL (l.take k)).length ≤ 66000 := by
  have h1 := bodyL_len (l.take k) (fun i hi => hok i (List.mem_of_mem_take hi))
  have h2 : (l.take k).length ≤ l.length := by rw [List.length_take]; omega
  omega
theorem bputL_len {x : Bd} (h50 : x.ls.length ≤ 50) (h60 : x.b.length ≤ 60) (hok : ∀ i ∈ x.b, i.Ok ∧ i.l.length ≤ 100) : (bputL x).length ≤ 66600 := by
  have h1 := lebL_len (x.ls.length : Int) (by omega)
  have h2 := losL_take x.ls x.ls.length h50
  have h3 := bodyL_take hok h60 x.b.length
  rw [List.take_length] at h2 h3
  unfold bputL
  rw [List.length_append, List.length_append]
  omega
/-- The body's box, and one of its groups. -/
abbrev BdLo (w : World) (x : Bd) (L : Option Addr) (l : Nat) (B : Option Addr) (c : Nat) (b off k : Nat) (y : Lo) (W : World) : Prop :=
  BxBd w w.heap.size x L l B c W ∧ W.cell? ⟨b, off + k * 2, none⟩ = some (.int .u32 y.n.toNat) ∧ W.cell? ⟨b, off + k * 2 + 1, none⟩ = some (.int .u8 y.t.toNat)
theorem bdLo_on {w W W' : World} {x : Bd} {L : Option Addr} {l : Nat} {B : Option Addr} {c b off k : Nat} {y : Lo} (hbl : b < w.heap.size) (h : BdLo w x L l B c b off k y W) (hb : Below W.heap.size W W') : BdLo w x L l B c b off k y W' := by
  have hz := (bxBd_bel h.1).size
  exact ⟨bxBd_on h.1 hb, (hb.cell (p := ⟨b, off + k * 2, none⟩) (show b < W.heap.size by omega)).trans h.2.1, (hb.cell (p := ⟨b, off + k * 2 + 1, none⟩) (show b < W.heap.size by omega)).trans h.2.2⟩
end Go.Proofs.YtebgmfjgapmpfabDoor

/- wire.Sized, bodies.locals, bodies.Put. -/
namespace Go.Proofs.YtebgmfjgapmpfabDoor
open Go.RowKit
set_option linter.unusedVariables false
set_option maxRecDepth 100000

/-- append of what lies somewhere: what is old stays, but for the row. -/
theorem row_liesG {w : World} {ops : Array Oper} {rest : List Oper} {o : Oper} {a : Act} {Q : Exit → Act → World → Prop} (hgd : o.guard = none) (s x : Operand)
    (ho : o.op = .call { callee := .builtin .append, args := #[s, x], argTypes := #[41, 41] })
    (B : Nat) (v : Value) (xs : List UInt8) (hs : a.eval s = v) (hr : Row w B v xs)
    (A : Option Addr) (m c B' : Nat) (news : List UInt8) (hx : a.eval x = .slice A m c) (hl : news.length = m) (hn : Lies w B' A (cells (nums news)))
    (hm : 0 < m) (hb : xs.length + news.length ≤ 1000000) (hB : B ≤ w.heap.size)
    (h : ∀ v' w', Row w' B v' (xs ++ news) → w.grownBy w' v.ownBlock → wpList Tryd.prog ops Q rest (a.put o.dst v') w') : wpList Tryd.prog ops Q (o :: rest) a w := by
  obtain ⟨i0, hi0, hz0, hz1, hz2⟩ := info_parts infoB
  have hcl : (cells (nums news)).length = m := by rw [cells_length, nums_length]; exact hl
  obtain ⟨b, off, rfl, _, _⟩ := hn.at_ (i := 0) (by omega)
  refine wpList_append_own _ hgd s x _ ho B 5 i0 _ 1 1 Tryd.underlying41 hi0 hz0 hz1 hz2 rfl (by omega) v _ _ hs hr ⟨b, off, none⟩ m c (cells (nums news)) hx (by omega) ?_ ?_ (by unfold maxLen; omega) (by omega) hB (fun v' w' h2 h3 _ => h v' w' ?_ h3)
  · intro j u hu
    obtain ⟨b', off', e, _, h2⟩ := hn j u hu
    injection e with e
    injection e with e1 e2
    subst e1; subst e2
    rw [Go.WideShapes.add_plain]; exact h2
  · intro u hu
    unfold cells at hu
    obtain ⟨c, _, rfl⟩ := List.mem_map.1 hu
    rfl
  · unfold Row
    rw [nums_append, List.length_append, hl]
    unfold cells at *
    rw [List.map_append]
    exact h2
theorem sized_w {w : World} {A : Option Addr} {c : Nat} {l : List UInt8} (hp : Pc A c l w) (hn : l.length ≤ 900000) :
    Calls Tryd.prog 38 #[.slice A l.length c] w (BytesL (lebL l.length ++ l) w) := by
  have HP := Lib.hid hp
  have HZ := Lib.hid (fun w => size_w l.length w (by omega))
  have hlen := lebL_len (l.length : Int) (by omega)
  clear hp
  generalize lebL (l.length : Int) = y at *
  go_enter Tryd.func38, Tryd.ntmps38
  go_wp2_with (first
    | (go_at_call 46; go_must ((with_reducible refine (HZ.out _).mono ?_); intro e w1 h; obtain ⟨v, rfl, hr, hb⟩ := h; have HR := Lib.hid hr; have HB := Lib.hid hb; have hz1 := hb.size; have HP1 := Lib.hid (HP.out.below hb); clear hr hb))
    | (at_builtin; (refine row_any rfl _ _ rfl w.heap.size _ y rfl HR.out A l.length c _ l rfl rfl HP1.out.lies HP1.out.nil (by omega) hz1 ?_; intro v2 w2 hr2 hb2; have HR2 := Lib.hid hr2; have HB2 := Lib.hid hb2; clear hr2 hb2)))
  go_ret
  exact ⟨_, rfl, HR2.out, HB.out.trans HB2.out⟩
/-- A row carried on. -/
structure RowB (B : Nat) (v : Value) (xs : List UInt8) (W : World) : Prop where
  r : Row W B v xs
theorem RowB.below {B : Nat} {v : Value} {xs : List UInt8} {W W' : World} (h : RowB B v xs W) (hb : Below W.heap.size W W') : RowB B v xs W' := ⟨h.r.later hb⟩
abbrev loC (x : Lo) : Array Value := #[.int .u32 x.n.toNat, .int .u8 x.t.toNat]
abbrev BxLo (w : World) (x : Lo) (W : World) : Prop := (Whole W w.heap.size 63 (loC x) ∧ Below w.heap.size w W) ∧ W.cell? ⟨w.heap.size, 0, none⟩ = some (.int .u32 x.n.toNat) ∧ W.cell? ⟨w.heap.size, 1, none⟩ = some (.int .u8 x.t.toNat)
theorem bxLo_on {w W W' : World} {x : Lo} (h : BxLo w x W) (hb : Below W.heap.size W W') : BxLo w x W' := ⟨⟨h.1.1.below hb, h.1.2.trans (hb.mono h.1.2.size)⟩, (h.1.1.below hb).cell 0, (h.1.1.below hb).cell 1⟩
theorem bxLo_start (w : World) (x : Lo) : BxLo w x (w.alloc (.cells (loC x) 63)) := ⟨⟨Whole.made _ _ _, below_box _ _⟩, (Whole.made w 63 (loC x)).cell 0, (Whole.made w 63 (loC x)).cell 1⟩
theorem bxLo_app {w W W' : World} {x : Lo} {B : Nat} (h : BxLo w x W) (hb : Below B W W') (hB : w.heap.size < B) : BxLo w x W' := by
  have hw : Whole W' w.heap.size 63 (loC x) := (hb.block _ hB).trans h.1.1
  exact ⟨⟨hw, h.1.2.trans (hb.mono (Nat.le_of_lt hB))⟩, hw.cell 0, hw.cell 1⟩
theorem index_o (x : UInt32) (w : World) : Calls Tryd.prog 63 #[.int .u32 x.toNat] w (BytesL (lebL x.toNat) w) := by
  have hx := x.toNat_lt
  have HU := Lib.hid (fun w => uintB (x.toNat : Int) w (by omega) (by omega))
  have wn : IntKind.u64.wrap (x.toNat : Int) = x.toNat := by simp [IntKind.wrap, IntKind.bits, IntKind.signed]; omega
  generalize lebL (x.toNat : Int) = y at *
  clear hx
  go_enter Tryd.func63, Tryd.ntmps63
  go_wp2_with (go_at_call 70; go_must ((with_reducible refine (HU.out _).mono ?_); intro e w1 h; obtain ⟨v, rfl, hr, hb⟩ := h; have HR := Lib.hid hr; have HB := Lib.hid hb; clear hr hb))
  go_ret
  exact ⟨_, rfl, HR.out, HB.out⟩
set_option maxHeartbeats 1600000 in
theorem putLocal_w (x : Lo) (w : World) : Calls Tryd.prog 40 #[.agg (loC x)] w (BytesL (lebL x.n.toNat ++ [x.t]) w) := by
  have hxn := x.n.toNat_lt
  have hB := bxLo_on (bxLo_start w x) (Below.refl _ _).drew
  have HI := Lib.hid (fun W => index_o x.n W)
  have hul := lebL_len (x.n.toNat : Int) (by omega)
  obtain ⟨u, hu⟩ : ∃ u, u = lebL (x.n.toNat : Int) := ⟨_, rfl⟩
  rw [← hu] at HI hul ⊢
  have HS := Lib.hid (show u.length + ([x.t] : List UInt8).length ≤ 1000000 by rw [List.length_singleton]; omega)
  clear hu hul hxn
  go_enter Tryd.func40, Tryd.ntmps40
  go_upto_region 1 with fail
  refine wp_region_noPanic ?_
  refine wp_region_held_drew (S := fun W => BxLo w x W) (by kernel_rfl) hB (fun hHeld => ?_)
  clear hB
  (refine heldTake (i := 0) (oi := { dst := some 3, op := Op.fieldAddr 63 (Operand.tmp 1) 0, type := 0, pos := "bodies.go:69", after := #[], guard := none }) (v := ?_) rfl (by kernel_rfl) (by kernel_rfl) (by kernel_rfl) (by assumption) ?_ ?_; rotate_left; focus (refine .inl ⟨by kernel_rfl, ?_⟩; intro w hSw; (try dsimp only at hSw); go_simp; (try with_reducible rfl)); (try simp only [Act.put, List.setIfInBounds_toArray, List.set_cons_zero, List.set_cons_succ]))
  (refine heldTake (i := 1) (oi := { dst := some 4, op := Op.load 61 (Operand.tmp 3), type := 61, pos := "bodies.go:69", after := #[{ on := 0, ground := Ground.data }], guard := none }) (v := ?_) rfl (by kernel_rfl) (by kernel_rfl) (by kernel_rfl) (by assumption) ?_ ?_; rotate_left; focus (refine .inl ⟨by kernel_rfl, ?_⟩; intro w hSw; (try dsimp only at hSw); go_simp; (try with_reducible rfl)); (try simp only [Act.put, List.setIfInBounds_toArray, List.set_cons_zero, List.set_cons_succ]))
  (refine heldTake (i := 3) (oi := { dst := some 6, op := Op.fieldAddr 63 (Operand.tmp 1) 1, type := 0, pos := "bodies.go:69", after := #[], guard := none }) (v := ?_) rfl (by kernel_rfl) (by kernel_rfl) (by kernel_rfl) (by assumption) ?_ ?_; rotate_left; focus (refine .inl ⟨by kernel_rfl, ?_⟩; intro w hSw; (try dsimp only at hSw); go_simp; (try with_reducible rfl)); (try simp only [Act.put, List.setIfInBounds_toArray, List.set_cons_zero, List.set_cons_succ]))
  (refine heldTake (i := 4) (oi := { dst := some 7, op := Op.load 5 (Operand.tmp 6), type := 5, pos := "bodies.go:69", after := #[{ on := 3, ground := Ground.data }], guard := none }) (v := ?_) rfl (by kernel_rfl) (by kernel_rfl) (by kernel_rfl) (by assumption) ?_ ?_; rotate_left; focus (refine .inl ⟨by kernel_rfl, ?_⟩; intro w hSw; (try dsimp only at hSw); go_simp; (try with_reducible rfl)); (try simp only [Act.put, List.setIfInBounds_toArray, List.set_cons_zero, List.set_cons_succ]))
  refine wpAnyH_ready (rs := [2, 5]) (by kernel_rfl) (by simp) ?_
  refine (AllReadyH.cons (o := { dst := some 5, op := Op.call { callee := Callee.value (Operand.func 63), args := #[Operand.tmp 4], argTypes := #[61] }, type := 41, pos := "bodies.go:69", after := #[{ on := 1, ground := Ground.data }], guard := none }) rfl (fun K hK => ?_) (AllReadyH.cons (o := { dst := some 8, op := Op.buildSlice 41 1 #[(0, Operand.tmp 7)], type := 41, pos := "bodies.go:69", after := #[{ on := 4, ground := Ground.data }], guard := none }) rfl (fun K hK => ?_) AllReadyH.nil))
  · go_simp
    (go_at_call 63; (with_reducible refine (HI.out _).mono ?_); rintro e w2 ⟨v2, rfl, hr2, hb2⟩; have hlt2 := hHeld.1.1.lt; have hsz2 := hb2.size; have HB2 := Lib.hid hb2; have HR2 := Lib.hid (RowB.mk hr2); clear hb2 hr2)
    refine hK.out _ _ (bxLo_on hHeld HB2.out) (fun hHeld2 => ?_)
    clear hK K hHeld
    (try simp only [Act.put, List.setIfInBounds_toArray, List.set_cons_zero, List.set_cons_succ])
    refine wpAnyH_ready (rs := [5]) (by kernel_rfl) (by simp) ?_
    refine (AllReadyH.cons (o := { dst := some 8, op := Op.buildSlice 41 1 #[(0, Operand.tmp 7)], type := 41, pos := "bodies.go:69", after := #[{ on := 4, ground := Ground.data }], guard := none }) rfl (fun K hK => ?_) AllReadyH.nil)
    refine step_build1 rfl _ rfl x.t rfl ?_; intro g5 wa5 hg5 hb5 hp5; have hsz5 := hb5.size; have HB5 := Lib.hid hb5; have HP5 := Lib.hid hp5; clear hb5 hp5
    refine hK.out _ _ (bxLo_on hHeld2 HB5.out) (fun hHeld5 => ?_)
    clear hK K hHeld2
    (try simp only [Act.put, List.setIfInBounds_toArray, List.set_cons_zero, List.set_cons_succ])
    refine wpAnyH_ready (rs := [6]) (by kernel_rfl) (by simp) ?_
    refine (AllReadyH.cons (o := { dst := some 9, op := Op.call { callee := Callee.builtin Builtin.append, args := #[Operand.tmp 5, Operand.tmp 8], argTypes := #[41, 41] }, type := 41, pos := "bodies.go:69", after := #[{ on := 2, ground := Ground.data }, { on := 5, ground := Ground.data }, { on := 2, ground := Ground.chain }], guard := none }) rfl (fun K hK => ?_) AllReadyH.nil)
    refine step_lies rfl _ _ rfl _ _ u rfl (((HR2.out).below HB5.out)).r (some ⟨g5, 0, none⟩) 1 1 _ [x.t] rfl rfl (HP5.out).lies (by decide) HS.out (by omega) ?_; intro v6 w6 hr6 hb6; have hk6 := bxLo_app hHeld5 hb6 hlt2; have HR6 := Lib.hid (hr6.mono (Nat.le_of_lt hlt2)); clear hr6 hb6
    refine hK.out _ _ hk6 (fun hHeld6 => ?_)
    clear hK K hHeld5
    (try simp only [Act.put, List.setIfInBounds_toArray, List.set_cons_zero, List.set_cons_succ])
    (refine heldTake (i := 7) (oi := { dst := some 2, op := Op.assign (Operand.tmp 9), type := 41, pos := "bodies.go:69", after := #[{ on := 6, ground := Ground.data }, { on := 6, ground := Ground.chain }, { on := 0, ground := Ground.phase }, { on := 1, ground := Ground.phase }, { on := 2, ground := Ground.phase }, { on := 3, ground := Ground.phase }, { on := 4, ground := Ground.phase }, { on := 5, ground := Ground.phase }, { on := 6, ground := Ground.phase }], guard := none }) (v := ?_) rfl (by kernel_rfl) (by kernel_rfl) (by kernel_rfl) (by assumption) ?_ ?_; rotate_left; focus (refine .inl ⟨by kernel_rfl, ?_⟩; intro w hSw; (try dsimp only at hSw); go_simp; (try with_reducible rfl)); (try simp only [Act.put, List.setIfInBounds_toArray, List.set_cons_zero, List.set_cons_succ]))
    refine wpAnyH_done (by kernel_rfl) ?_ _
    refine NoPanic.normal ?_
    have hLast := hHeld6
    clear hHeld6
    go_wp2
    go_ret
    exact ⟨_, rfl, HR6.out, hLast.1.2⟩
  · refine step_build1 rfl _ rfl x.t rfl ?_; intro g5 wa5 hg5 hb5 hp5; have hsz5 := hb5.size; have HB5 := Lib.hid hb5; have HP5 := Lib.hid hp5; clear hb5 hp5
    refine hK.out _ _ (bxLo_on hHeld HB5.out) (fun hHeld5 => ?_)
    clear hK K hHeld
    (try simp only [Act.put, List.setIfInBounds_toArray, List.set_cons_zero, List.set_cons_succ])
    refine wpAnyH_ready (rs := [2]) (by kernel_rfl) (by simp) ?_
    refine (AllReadyH.cons (o := { dst := some 5, op := Op.call { callee := Callee.value (Operand.func 63), args := #[Operand.tmp 4], argTypes := #[61] }, type := 41, pos := "bodies.go:69", after := #[{ on := 1, ground := Ground.data }], guard := none }) rfl (fun K hK => ?_) AllReadyH.nil)
    go_simp
    (go_at_call 63; (with_reducible refine (HI.out _).mono ?_); rintro e w2 ⟨v2, rfl, hr2, hb2⟩; have hlt2 := hHeld5.1.1.lt; have hsz2 := hb2.size; have HB2 := Lib.hid hb2; have HR2 := Lib.hid (RowB.mk hr2); clear hb2 hr2)
    refine hK.out _ _ (bxLo_on hHeld5 HB2.out) (fun hHeld2 => ?_)
    clear hK K hHeld5
    (try simp only [Act.put, List.setIfInBounds_toArray, List.set_cons_zero, List.set_cons_succ])
    refine wpAnyH_ready (rs := [6]) (by kernel_rfl) (by simp) ?_
    refine (AllReadyH.cons (o := { dst := some 9, op := Op.call { callee := Callee.builtin Builtin.append, args := #[Operand.tmp 5, Operand.tmp 8], argTypes := #[41, 41] }, type := 41, pos := "bodies.go:69", after := #[{ on := 2, ground := Ground.data }, { on := 5, ground := Ground.data }, { on := 2, ground := Ground.chain }], guard := none }) rfl (fun K hK => ?_) AllReadyH.nil)
    refine step_lies rfl _ _ rfl _ _ u rfl (HR2.out).r (some ⟨g5, 0, none⟩) 1 1 _ [x.t] rfl rfl (((HP5.out).below HB2.out)).lies (by decide) HS.out (by omega) ?_; intro v6 w6 hr6 hb6; have hk6 := bxLo_app hHeld2 hb6 hlt2; have HR6 := Lib.hid (hr6.mono (Nat.le_of_lt hlt2)); clear hr6 hb6
    refine hK.out _ _ hk6 (fun hHeld6 => ?_)
    clear hK K hHeld2
    (try simp only [Act.put, List.setIfInBounds_toArray, List.set_cons_zero, List.set_cons_succ])
    (refine heldTake (i := 7) (oi := { dst := some 2, op := Op.assign (Operand.tmp 9), type := 41, pos := "bodies.go:69", after := #[{ on := 6, ground := Ground.data }, { on := 6, ground := Ground.chain }, { on := 0, ground := Ground.phase }, { on := 1, ground := Ground.phase }, { on := 2, ground := Ground.phase }, { on := 3, ground := Ground.phase }, { on := 4, ground := Ground.phase }, { on := 5, ground := Ground.phase }, { on := 6, ground := Ground.phase }], guard := none }) (v := ?_) rfl (by kernel_rfl) (by kernel_rfl) (by kernel_rfl) (by assumption) ?_ ?_; rotate_left; focus (refine .inl ⟨by kernel_rfl, ?_⟩; intro w hSw; (try dsimp only at hSw); go_simp; (try with_reducible rfl)); (try simp only [Act.put, List.setIfInBounds_toArray, List.set_cons_zero, List.set_cons_succ]))
    refine wpAnyH_done (by kernel_rfl) ?_ _
    refine NoPanic.normal ?_
    have hLast := hHeld6
    clear hHeld6
    go_wp2
    go_ret
    exact ⟨_, rfl, HR6.out, hLast.1.2⟩
theorem cfPL (a : Array Value) (w : World) : (callFunc 40 a).run Tryd.prog w = .ok (.enter 40 a) w := by kernel_rfl
set_option maxHeartbeats 4000000 in
theorem locals_any {w : World} {A : Option Addr} {c : Nat} {l : List Lo} (hl : Los w A l) (h50 : l.length ≤ 50) :
    Calls Tryd.prog 39 #[.slice A l.length c, .func (.func 40) #[] #[]] w (BytesL (lebL l.length ++ losL l) w) := by
  have HL := Lib.hid hl
  have HZ := Lib.hid (fun w => size_w l.length w (by omega))
  have HLT := Lib.hid (fun k => losL_take l k h50)
  have hhd := lebL_len (l.length : Int) (by omega)
  obtain ⟨hd, hhe⟩ : ∃ hd, hd = lebL (l.length : Int) := ⟨_, rfl⟩
  obtain ⟨P, hP⟩ : ∃ P, P = lebL (l.length : Int) ++ losL l := ⟨_, rfl⟩
  rw [← hP]
  rw [← hhe] at hP HZ hhd
  have HP := Lib.hid hP
  obtain ⟨n, hnn⟩ : ∃ n, n = l.length := ⟨_, rfl⟩
  have HNN := Lib.hid hnn
  rw [← hnn] at h50 HZ ⊢
  have hcf := cfPL
  clear hl hnn hP hhe
  go_enter Tryd.func39, Tryd.ntmps39
  go_wp2_with (go_at_call 46; go_must ((with_reducible refine (HZ.out _).mono ?_); intro e w1 h; obtain ⟨v, rfl, hr, hb⟩ := h; have HR := Lib.hid hr; have HB := Lib.hid hb; clear hr hb))
  go_loopw [5, 13] (fun v i wr => ∃ (k : Nat), k ≤ n ∧ i = .int .i64 k ∧ Row wr w.heap.size v (hd ++ losL (l.take k)) ∧ Below w.heap.size w wr) (fun _ i _ => n - (intOf i).toNat)
  case atStart => exact ⟨0, Nat.zero_le _, rfl, by simpa [losL] using HR.out, HB.out⟩
  case round =>
    obtain ⟨k, hk, rfl, hr, hb⟩ := hrel
    have hz1 := hb.size
    by_cases hlt : k < n
    · obtain ⟨x, hx⟩ : ∃ x, l[k]? = some x := ⟨_, List.getElem?_eq_getElem (by rw [← HNN.out]; exact hlt)⟩
      obtain ⟨b, off, rfl, hbl, c0, c1⟩ := (HL.out.below hb) k x hx
      have HS := Lib.hid (losL_snoc hx)
      have hlt2 := HLT.out k
      have HBA := Lib.hid (hb.alloc hz1 (.cells #[.int .u32 x.n.toNat, .int .u8 x.t.toNat] 63))
      have HRA := Lib.hid (hr.alloc (.cells #[.int .u32 x.n.toNat, .int .u8 x.t.toNat] 63))
      have HPL := Lib.hid (fun W => show Calls Tryd.prog 40 #[.agg #[.int .u32 x.n.toNat, .int .u8 x.t.toNat]] W (BytesL (lebL x.n.toNat ++ [x.t]) W) from putLocal_w x W)
      have hxn := x.n.toNat_lt
      have hul := lebL_len (x.n.toNat : Int) (by omega)
      obtain ⟨t, ht⟩ : ∃ t, t = hd ++ losL (l.take k) := ⟨_, rfl⟩
      have htn : t.length ≤ 600 := by rw [ht, List.length_append]; omega
      have HT := Lib.hid ht
      rw [← ht] at HRA
      obtain ⟨u, hu⟩ : ∃ u, u = lebL (x.n.toNat : Int) ++ [x.t] := ⟨_, rfl⟩
      have hu1 : 0 < u.length ∧ u.length ≤ 30 := by rw [hu, List.length_append, List.length_singleton]; omega
      rw [← hu] at HPL HS
      have hs1 : t.length + u.length ≤ 1000000 := by omega
      have HU0 := Lib.hid hu1.1
      clear hx hr hb ht hu hlt2 htn hul hu1 hxn
      go_wp2_with (first
        | (go_at_call 40; go_must ((with_reducible refine (HPL.out _).mono ?_); intro e w3 h; obtain ⟨v3, rfl, hr3, hb3⟩ := h; obtain ⟨A3, c3, rfl, hp3⟩ := hr3.pc; have HP3 := Lib.hid hp3; have HR3 := Lib.hid (HRA.out.later hb3); have HB3 := Lib.hid (HBA.out.trans (hb3.mono HBA.out.size)); have hz3 := HB3.out.size; clear hr3 hb3 hp3))
        | (at_builtin; go_must (refine row_liesG rfl _ _ rfl w.heap.size _ t rfl HR3.out A3 u.length c3 w3.heap.size u rfl rfl HP3.out.lies HU0.out hs1 hz3 ?_; intro v4 w4 hr4 hg4; have HR4 := Lib.hid hr4; have HB4 := Lib.hid (HB3.out.trans (Row.below HR3.out hz3 hg4)); clear hr4 hg4)))
      go_roundw
      case rel => exact ⟨k + 1, by omega, by go_num, by rw [HS.out, ← List.append_assoc, ← HT.out]; exact HR4.out, HB4.out⟩
      case measure => simp [intOf]; omega
    · have hkn : k = l.length := by rw [← HNN.out]; omega
      rw [hkn, List.take_length, ← HP.out] at hr
      have HR2 := Lib.hid hr
      have HB2 := Lib.hid hb
      clear hr hb hkn
      go_wp2
      go_ret
      exact ⟨_, rfl, HR2.out, HB2.out⟩
/-- What Put hands back. -/
def PuttedBd (x : Bd) (w : World) (e : Ending) (w' : World) : Prop := ∃ v, e = .returned (.tuple #[v, .int .i64 (brZ x)]) ∧ Row w' w.heap.size v (if brZ x = 0 then codeL x else []) ∧ Below w.heap.size w w'
theorem brZ_code {x : Bd} (h : bshZ x = 0) : brZ x = codeZ x.b := by
  unfold brZ codeZ
  rw [if_neg (by omega)]
  unfold bshZ at h
  split at h
  · omega
  · split at h
    · omega
    · rw [if_pos h]
set_option maxHeartbeats 8000000 in
theorem put_bd {w : World} {x : Bd} {L : Option Addr} {l : Nat} {B : Option Addr} {c : Nat} (hT : Tabs w) (hl : Los w L x.ls) (hi : Ins w B x.b) (h50 : x.ls.length ≤ 50) (h60 : x.b.length ≤ 60) (hok : ∀ i ∈ x.b, i.Ok ∧ i.l.length ≤ 100) :
    Calls Tryd.prog 21 #[bdV x L l B c] w (PuttedBd x w) := by
  have H0 := Lib.hid (bxBd_start w x L l B c)
  have hb0 := below_box w (.cells (bdC x L l B c) 60)
  have HR := Lib.hid (bright_any (l := l) (c := c) (hT.below hb0) (hl.below hb0) (hi.below hb0) (by omega) (by omega))
  have HPB := Lib.hid (fun W (h : Below w.heap.size w W) => putBody_any (c := c) (hT.below h) (hi.below h) h60 hok)
  have HLC := Lib.hid (fun W (h : Below w.heap.size w W) => locals_any (c := l) (hl.below h) h50)
  have hbl := bputL_len h50 h60 hok
  have hsp : codeL x = lebL ((bputL x).length : Int) ++ bputL x := rfl
  have hsp2 : bputL x = (lebL (x.ls.length : Int) ++ losL x.ls) ++ bodyL x.b := rfl
  unfold PuttedBd
  clear hT hl hi hok hb0
  by_cases h0 : bshZ x = 0
  · rw [h0] at HR
    rw [brZ_code h0]
    by_cases h1 : codeZ x.b = 0
    · rw [if_pos h1, h1]
      have HPB2 := Lib.hid (fun W (h : Below w.heap.size w W) => show Calls Tryd.prog 37 #[.slice B x.b.length c] W fun e w' => ∃ v, e = .returned (.tuple #[v, .int .i64 0]) ∧ Row w' W.heap.size v (bodyL x.b) ∧ Below W.heap.size W w' from (HPB.out W h).mono fun e w' ⟨v, a1, a2, a3⟩ => ⟨v, by rw [h1] at a1; exact a1, by rw [if_pos h1] at a2; exact a2, a3⟩)
      rw [hsp]
      obtain ⟨z, hz⟩ : ∃ z, z = bputL x := ⟨_, rfl⟩
      rw [← hz] at hsp2 hbl ⊢
      obtain ⟨g, hg⟩ : ∃ g, g = lebL (x.ls.length : Int) ++ losL x.ls := ⟨_, rfl⟩
      obtain ⟨y, hy⟩ : ∃ y, y = bodyL x.b := ⟨_, rfl⟩
      rw [← hg] at HLC hsp2
      rw [← hy] at HPB2 hsp2
      have HZE := Lib.hid hsp2
      have hgy : g.length + y.length ≤ 1000000 := by have := congrArg List.length hsp2; rw [List.length_append] at this; omega
      have HZS := Lib.hid (fun W A c (h : Pc A c z W) => sized_w (c := c) h (by omega))
      clear hsp hsp2 h0 h1 hg hy hz HPB
      go_enter Tryd.func21, Tryd.ntmps21
      go_wp2_with (first
        | (go_at_call 36; go_must ((with_reducible refine HR.out.mono ?_); rintro e w1 ⟨rfl, hb⟩; have H1 := Lib.hid (bxBd_on H0.out hb); obtain ⟨c0, c1⟩ := H1.out.2; clear hb))
        | (go_at_call 37; go_must ((with_reducible refine (HPB2.out _ (bxBd_bel H1.out)).mono ?_); intro e w2 hq; obtain ⟨v2, rfl, hr, hb⟩ := hq; obtain ⟨A2, cp2, rfl, hpc⟩ := hr.pc; clear c0 c1; have HP2 := Lib.hid hpc; have H2 := Lib.hid (bxBd_on H1.out hb); obtain ⟨c0, c1⟩ := H2.out.2; clear hb hr hpc))
        | (go_at_call 39; go_must ((with_reducible refine (HLC.out _ (bxBd_bel H2.out)).mono ?_); intro e w3 hq; obtain ⟨v3, rfl, hr, hb⟩ := hq; have HR3 := Lib.hid hr; have H3 := Lib.hid (bxBd_on H2.out hb); have HP3 := Lib.hid (HP2.out.below hb); have hz3 := hb.size; clear hb hr c0 c1))
        | (go_at_call 38; go_must ((with_reducible refine (HZS.out _ _ _ HP4.out).mono ?_); intro e w5 hq; obtain ⟨v5, rfl, hr, hb⟩ := hq; have HR5 := Lib.hid hr; have HB5 := Lib.hid (HB4.out.trans (hb.mono HB4.out.size)); clear hb hr))
        | (at_builtin; (refine row_any rfl _ _ rfl w2.heap.size _ g rfl HR3.out A2 y.length cp2 _ y rfl rfl HP3.out.lies HP3.out.nil hgy hz3 ?_; intro v4 w4 hr4 hb4; rw [← HZE.out] at hr4; obtain ⟨A4, cp4, rfl, hpc4⟩ := hr4.pc; have HP4 := Lib.hid hpc4; have HB4 := Lib.hid ((bxBd_bel H3.out).trans (hb4.mono (bxBd_bel H2.out).size)); clear hr4 hb4 hpc4)))
      go_ret2
      exact ⟨_, rfl, HR5.out.mono HB4.out.size, HB5.out⟩
    · rw [if_neg h1]
      have d0 : (codeZ x.b != 0) = true := zb_of (by simpa using h1)
      have HPB2 := Lib.hid (fun W (h : Below w.heap.size w W) => show Calls Tryd.prog 37 #[.slice B x.b.length c] W fun e w' => ∃ v, e = .returned (.tuple #[v, .int .i64 (codeZ x.b)]) ∧ Below W.heap.size W w' from (HPB.out W h).mono fun e w' ⟨v, a1, a2, a3⟩ => ⟨v, a1, a3⟩)
      obtain ⟨z, hz⟩ : ∃ z, z = codeZ x.b := ⟨_, rfl⟩
      rw [← hz] at HPB2 d0 ⊢
      clear h0 h1 hz HPB hsp hsp2 HLC
      go_enter Tryd.func21, Tryd.ntmps21
      go_wp2_with (first
        | (go_at_call 36; go_must ((with_reducible refine HR.out.mono ?_); rintro e w1 ⟨rfl, hb⟩; have H1 := Lib.hid (bxBd_on H0.out hb); obtain ⟨c0, c1⟩ := H1.out.2; clear hb))
        | (go_at_call 37; go_must ((with_reducible refine (HPB2.out _ (bxBd_bel H1.out)).mono ?_); intro e w2 hq; obtain ⟨v2, rfl, hb⟩ := hq; clear c0 c1; have H2 := Lib.hid (bxBd_on H1.out hb); clear hb)))
      go_ret2
      exact ⟨_, rfl, Row.nil _ _, bxBd_bel H2.out⟩
  · have hbz : brZ x = bshZ x := by unfold brZ; rw [if_pos h0]
    rw [hbz, if_neg h0]
    have d0 : (bshZ x != 0) = true := zb_of (by simpa using h0)
    obtain ⟨z, hz⟩ : ∃ z, z = bshZ x := ⟨_, rfl⟩
    rw [← hz] at HR d0 ⊢
    clear h0 hz hbz HPB HLC hsp hsp2
    go_enter Tryd.func21, Tryd.ntmps21
    go_wp2_with (go_at_call 36; go_must ((with_reducible refine HR.out.mono ?_); rintro e w1 ⟨rfl, hb⟩; have H1 := Lib.hid (bxBd_on H0.out hb); clear hb))
    go_ret2
    exact ⟨_, rfl, Row.nil _ _, bxBd_bel H1.out⟩
end Go.Proofs.YtebgmfjgapmpfabDoor
