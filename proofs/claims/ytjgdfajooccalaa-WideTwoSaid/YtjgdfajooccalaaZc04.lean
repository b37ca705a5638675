/- Bits that lie somewhere; rows of bits of the call's own. -/
import Derived.Test.YtjgdfajooccalaaZc01
import Derived.Deep.OwnRows
import Derived.OwnWalk
import Derived.Lib.Hide
import Derived.Test.YtjgdfajooccalaaZc03
import Derived.Deep.QuietTactic
import Derived.Deep.CutBlock
import Derived.Deep.DeepCutAuto
import Derived.WalkLawsBesides
import Derived.BigQuiet
import Derived.LoopTactic
import Derived.Deep.DeepMust
namespace Go.Proofs.Ytjgdfajooccalaa
open Go.RowKit
set_option linter.unusedVariables false
set_option maxRecDepth 100000

def cellsB (l : List Bool) : List Value := l.map fun b => .bool b
theorem cellsB_get {l : List Bool} {i : Nat} {b : Bool} (h : l[i]? = some b) : (cellsB l)[i]? = some (.bool b) := by
  unfold cellsB; rw [List.getElem?_map, h]; rfl
theorem cellsB_len (l : List Bool) : (cellsB l).length = l.length := by simp [cellsB]
theorem infoBool : (Try.prog.info? 4).map (fun i => (i.zero, i.size, i.bytes)) = some (some (.bool false), 1, 1) := by kernel_rfl
/-- The slice at A reads as these bits. -/
def LB (w : World) (A : Option Addr) (l : List Bool) : Prop := Lies w w.heap.size A (cellsB l)
theorem LB.below {w w' : World} {A : Option Addr} {l : List Bool} (h : LB w A l) (hb : Below w.heap.size w w') : LB w' A l := (Lies.below h hb (Nat.le_refl _)).more hb.size
theorem LB.at {w : World} {A : Option Addr} {l : List Bool} (h : LB w A l) {i : Nat} {d : Bool} (hd : l[i]? = some d) : ∃ b off, A = some ⟨b, off, none⟩ ∧ b < w.heap.size ∧ w.cell? ⟨b, off + i, none⟩ = some (.bool d) := h i _ (cellsB_get hd)
def RowB (W : World) (base : Nat) (v : Value) (acc : List Bool) : Prop := W.ownsRow base 4 1 v acc.length (cellsB acc)
theorem RowB.nil (W : World) (base : Nat) : RowB W base (.slice none 0 0) [] := World.ownsRow_nil W base _ 1
theorem RowB.later {W W' : World} {base : Nat} {v : Value} {acc : List Bool} (h : RowB W base v acc) (hb : Below W.heap.size W W') : RowB W' base v acc :=
  World.ownsRow.kept h (gb_of_below none hb) (by cases v.ownBlock with
    | none => exact .inl rfl
    | some k => exact .inr (by simp))
theorem RowB.below {w W W' : World} {base : Nat} {v : Value} {acc : List Bool} (h : RowB W base v acc) (hB : base ≤ W.heap.size) (hg : W.grownBy W' v.ownBlock) : Below base W W' :=
  Below.grown (Below.refl _ _) hg hB (fun k hk => (World.ownsRow.lt h k hk).1)
/-- The beginning of a block of one's own. -/
def OB (W : World) (base : Nat) (A : Option Addr) (l : List Bool) : Prop := ∃ g cur, A = some ⟨g, 0, none⟩ ∧ base ≤ g ∧ Whole W g 4 cur ∧ cur.toList.take l.length = cellsB l
theorem RowB.ob {W : World} {base : Nat} {v : Value} {l : List Bool} (h : RowB W base v l) (hl : 0 < l.length) : ∃ A c, v = .slice A l.length c ∧ OB W base A l := by
  rcases h.2 with ⟨rfl, h0⟩ | ⟨g, cap, cur, rfl, hb, hg, _, _, _, ht⟩
  · omega
  · exact ⟨_, _, rfl, g, cur, rfl, hb, hg, by rw [Nat.mul_one] at ht; exact ht⟩
theorem OB.lb {W : World} {base : Nat} {A : Option Addr} {l : List Bool} (h : OB W base A l) : LB W A l := by
  obtain ⟨g, cur, rfl, _, h, ht⟩ := h
  intro j v hv
  refine ⟨g, 0, rfl, h.lt, ?_⟩
  rw [h.cell]
  have hj : j < l.length := by have := (List.getElem?_eq_some_iff.1 hv).1; rwa [cellsB_len] at this
  rw [← ht] at hv
  rw [List.getElem?_take, if_pos hj] at hv
  simpa using hv
theorem OB.later {W W' : World} {base : Nat} {A : Option Addr} {l : List Bool} (h : OB W base A l) (hb : Below W.heap.size W W') : OB W' base A l := by
  obtain ⟨g, cur, e, h1, h, ht⟩ := h
  exact ⟨g, cur, e, h1, h.below hb, ht⟩
theorem OB.mono {W : World} {base base' : Nat} {A : Option Addr} {l : List Bool} (h : OB W base A l) (hb : base' ≤ base) : OB W base' A l := by
  obtain ⟨g, cur, e, h1, h⟩ := h
  exact ⟨g, cur, e, Nat.le_trans hb h1, h⟩
theorem OB.past {W W' : World} {base b : Nat} {A : Option Addr} {l : List Bool} (h : OB W base A l) (hg : W.grownBy W' (some b)) (hb : b < base) : OB W' base A l := by
  obtain ⟨g, cur, e, h1, h, ht⟩ := h
  exact ⟨g, cur, e, h1, h.grown hg (by simp only [ne_eq, Option.some.injEq]; omega), ht⟩
theorem OB.lt {W : World} {base g : Nat} {l : List Bool} (h : OB W base (some ⟨g, 0, none⟩) l) : base ≤ g ∧ g < W.heap.size := by
  obtain ⟨g2, cur, e, h1, h, _⟩ := h
  injection e with e
  injection e with e
  subst e
  exact ⟨h1, h.lt⟩
theorem OB.below {W W' : World} {base : Nat} {A : Option Addr} {l : List Bool} (h : OB W base A l) (hb : Below W.heap.size W W') : OB W' base A l := h.later hb
/-- Another block was written. -/
theorem OB.keep {W W' : World} {base g b : Nat} {l : List Bool} (h : OB W base (some ⟨g, 0, none⟩) l) (hg : W.grownBy W' (some b)) (hb : g ≠ b) : OB W' base (some ⟨g, 0, none⟩) l := by
  obtain ⟨g2, cur, e, h1, h, ht⟩ := h
  injection e with e
  injection e with e
  subst e
  exact ⟨g, cur, rfl, h1, h.grown hg (by simp only [ne_eq, Option.some.injEq]; exact hb), ht⟩
theorem OB.keep2 {W W' : World} {base b : Nat} {A : Option Addr} {l : List Bool} (h : OB W base A l) (hg : W.grownBy W' (some b)) (hb : b < base) : OB W' base A l := h.past hg hb
/-- A new block of zero bits. -/
theorem OB.zero (w : World) (n : Nat) : OB (w.alloc (.cells (madeCells #[.bool false] n) 4)) w.heap.size (some ⟨w.heap.size, 0, none⟩) (List.replicate n false) := by
  refine ⟨_, _, rfl, Nat.le_refl _, Whole.made w _ _, ?_⟩
  unfold cellsB
  rw [List.length_replicate, List.map_replicate]
  apply List.ext_getElem?
  intro i
  rw [List.getElem?_take]
  by_cases h : i < n
  · rw [if_pos h, List.getElem?_replicate, if_pos h, Array.getElem?_toList]
    unfold madeCells
    simp [h, Nat.mod_one]
  · rw [if_neg h, List.getElem?_replicate, if_neg h]
theorem hmk_any (n : Nat) (hn : n ≤ 1000) (w : World) : (Instr.makeSlice 43 (.int .i64 n) (.int .i64 n)).run Try.prog w = .ok (.slice (some ⟨w.heap.size, 0, none⟩) n n) (w.alloc (.cells (madeCells #[.bool false] n) 4)) :=
  run_make_row' 43 4 (.bool false) 1 Try.underlying43 infoBool rfl .i64 .i64 n (by omega) (by omega) w
/-- One bit is set. -/
theorem OB.put {W : World} {base g : Nat} {l : List Bool} (h : OB W base (some ⟨g, 0, none⟩) l) (i : Nat) (b : Bool) (hi : i < l.length) : OB (W.setCell ⟨g, i, none⟩ (.bool b)) base (some ⟨g, 0, none⟩) (l.set i b) := by
  obtain ⟨g2, cur, e, h1, h, ht⟩ := h
  injection e with e
  injection e with e1
  subst e1
  refine ⟨g, _, rfl, h1, h.put i _, ?_⟩
  have hc : l.length ≤ cur.size := by
    have h9 := congrArg List.length ht
    simp only [List.length_take, cellsB_len, Array.length_toList] at h9
    omega
  unfold cellsB at *
  rw [List.length_set, List.map_set, ← ht, Array.toList_setIfInBounds, List.take_set]
theorem OB.at {W : World} {base : Nat} {A : Option Addr} {l : List Bool} (h : OB W base A l) {i : Nat} {d : Bool} (hd : l[i]? = some d) : ∃ g, A = some ⟨g, 0, none⟩ ∧ base ≤ g ∧ g < W.heap.size ∧ W.cell? ⟨g, i, none⟩ = some (.bool d) ∧ W.frozen? ⟨g, i, none⟩ = false := by
  obtain ⟨b, off, e, h2, h3⟩ := h.lb.at hd
  obtain ⟨g, cur, rfl, h4, h5, _⟩ := h
  injection e with e
  injection e with e1 e2
  subst e1; subst e2
  rw [Nat.zero_add] at h3
  exact ⟨g, rfl, h4, h5.lt, h3, h5.frozen i⟩
/-- append of a new block of one bit. -/
theorem rowB_new {w : World} {ops : Array Oper} {rest : List Oper} {o : Oper} {a : Act} {Q : Exit → Act → World → Prop} (hgd : o.guard = none) (s x : Operand)
    (ho : o.op = .call { callee := .builtin .append, args := #[s, x], argTypes := #[43, 43] })
    (B : Nat) (v : Value) (acc : List Bool) (hs : a.eval s = v) (hr : RowB w B v acc) (g : Nat) (y : Bool) (hx : a.eval x = .slice (some ⟨g, 0, none⟩) 1 1)
    (hg : Whole w g 4 #[.bool y]) (hb : acc.length ≤ 1000) (hB : B ≤ w.heap.size)
    (h : ∀ v' w', RowB w' B v' (acc ++ [y]) → Below B w w' → wpList Try.prog ops Q rest (a.put o.dst v') w') : wpList Try.prog ops Q (o :: rest) a w := by
  obtain ⟨i0, hi0, hz0, hz1, hz2⟩ := info_parts infoBool
  refine wpList_append_own _ hgd s x _ ho B 4 i0 _ 1 1 Try.underlying43 hi0 hz0 hz1 hz2 rfl (by omega) v _ _ hs hr ⟨g, 0, none⟩ 1 1 [.bool y] hx rfl ?_ ?_ (by unfold maxLen; omega) (by omega) hB (fun v' w' h2 h3 _ => h v' w' ?_ (RowB.below (w := w) hr hB h3))
  · intro j u hu
    rw [Go.WideShapes.add_plain, Nat.zero_add, hg.cell]
    simpa using hu
  · intro u hu
    simp only [List.mem_cons, List.not_mem_nil, or_false] at hu
    subst hu
    rfl
  · unfold RowB
    rw [List.length_append]
    unfold cellsB at *
    rw [List.map_append]
    simpa using h2
theorem step_valueB {w : World} {ops : Array Oper} {o : Oper} {a : Act} {K : Act → World → Prop} {Q : Exit → Act → World → Prop} {E : Prop} {v : Value} {w' : World} (hgd : o.guard = none) (h : (execOp a.eval o).run Try.prog w = .ok (.value v) w') (hK : K (a.put o.dst v) w') :
    if Region.wanted o (yielded ops a.tmps) = true then Oper.wp Try.prog o a w K Q else E := by
  have hw : Region.wanted o (yielded ops a.tmps) = true := by simp [Region.wanted, hgd]
  rw [if_pos hw]
  unfold Oper.wp
  rw [h]
  exact hK
/-- make of n bits, at a step of a region that draws. -/
theorem step_make {w : World} {ops : Array Oper} {o : Oper} {a : Act} {K : Act → World → Prop} {Q : Exit → Act → World → Prop} {E : Prop} (hgd : o.guard = none) (n : Nat) (hn : n ≤ 1000) (l c : Operand) (ho : o.op = .makeSlice 43 l c) (hl : a.eval l = .int .i64 n) (hc : a.eval c = .int .i64 n)
    (h : ∀ g wa, w.heap.size ≤ g → Below w.heap.size w wa → OB wa w.heap.size (some ⟨g, 0, none⟩) (List.replicate n false) → K (a.put o.dst (.slice (some ⟨g, 0, none⟩) n n)) wa) :
    if Region.wanted o (yielded ops a.tmps) = true then Oper.wp Try.prog o a w K Q else E := by
  refine step_valueB (v := .slice (some ⟨w.heap.size, 0, none⟩) n n) (w' := w.alloc (.cells (madeCells #[.bool false] n) 4)) hgd ?_ (h _ _ (Nat.le_refl _) ((Below.refl _ _).alloc (Nat.le_refl _) _) (OB.zero w n))
  have hm := hmk_any n hn w
  cases o
  subst ho
  clear h
  generalize a.eval = ev at hl hc ⊢
  simp [go_sem, hl, hc, hm]
theorem step_buildB {w : World} {ops : Array Oper} {o : Oper} {a : Act} {K : Act → World → Prop} {Q : Exit → Act → World → Prop} {E : Prop} (hgd : o.guard = none) (x : Operand) (ho : o.op = .buildSlice 43 1 #[(0, x)]) (b : Bool) (hx : a.eval x = .bool b)
    (h : ∀ g wa, w.heap.size ≤ g → Below w.heap.size w wa → Whole wa g 4 #[.bool b] → K (a.put o.dst (.slice (some ⟨g, 0, none⟩) 1 1)) wa) :
    if Region.wanted o (yielded ops a.tmps) = true then Oper.wp Try.prog o a w K Q else E := by
  refine step_valueB (v := .slice (some ⟨w.heap.size, 0, none⟩) 1 1) (w' := w.alloc (.cells #[.bool b] 4)) hgd ?_ (h _ _ (Nat.le_refl _) ((Below.refl _ _).alloc (Nat.le_refl _) _) (Whole.made _ _ _))
  cases o
  subst ho
  clear h
  generalize a.eval = ev at hx ⊢
  simp [go_sem, hx]
theorem step_rowB {w : World} {ops : Array Oper} {o : Oper} {a : Act} {K : Act → World → Prop} {Q : Exit → Act → World → Prop} {E : Prop} (hgd : o.guard = none) (s x : Operand)
    (ho : o.op = .call { callee := .builtin .append, args := #[s, x], argTypes := #[43, 43] })
    (B : Nat) (v : Value) (acc : List Bool) (hs : a.eval s = v) (hr : RowB w B v acc) (g : Nat) (y : Bool) (hx : a.eval x = .slice (some ⟨g, 0, none⟩) 1 1)
    (hg : Whole w g 4 #[.bool y]) (hb : acc.length ≤ 1000) (hB : B ≤ w.heap.size)
    (h : ∀ v' w', RowB w' B v' (acc ++ [y]) → Below B w w' → w.grownBy w' v.ownBlock → K (a.put o.dst v') w') :
    if Region.wanted o (yielded ops a.tmps) = true then Oper.wp Try.prog o a w K Q else E := by
  obtain ⟨i0, hi0, hz0, hz1, hz2⟩ := info_parts infoBool
  have hw : Region.wanted o (yielded ops a.tmps) = true := by simp [Region.wanted, hgd]
  rw [if_pos hw]
  refine wp_append_own _ s x _ ho B 4 i0 _ 1 1 Try.underlying43 hi0 hz0 hz1 hz2 rfl (by omega) v _ _ hs hr ⟨g, 0, none⟩ 1 1 [.bool y] hx rfl ?_ ?_ (by unfold maxLen; omega) (by omega) hB (fun v' w' h2 h3 _ => h v' w' ?_ (RowB.below (w := w) hr hB h3) h3)
  · intro j u hu
    rw [Go.WideShapes.add_plain, Nat.zero_add, hg.cell]
    simpa using hu
  · intro u hu
    simp only [List.mem_cons, List.not_mem_nil, or_false] at hu
    subst hu
    rfl
  · unfold RowB
    rw [List.length_append]
    unfold cellsB at *
    rw [List.map_append]
    simpa using h2
end Go.Proofs.Ytjgdfajooccalaa

/- Bits, Number, truth, add, not, less of creelref19. (By gen/genBt.py.) -/
namespace Go.Proofs.Ytjgdfajooccalaa
open Go.RowKit
set_option linter.unusedVariables false
set_option maxRecDepth 100000

/-- What hands back N bits of its own. -/
def Ownw (l : List Bool) (w : World) (e : Ending) (w' : World) : Prop := ∃ A c, e = .returned (.slice A 64 c) ∧ OB w' w.heap.size A l ∧ Below w.heap.size w w'
set_option maxHeartbeats 1000000 in
theorem bitsw (x : Nat) (w : World) (hx : x < 18446744073709551616) : Calls Try.prog 18 #[.int .u64 x] w (Ownw (bitsL 64 x) w) := by
  go_enter Try.func18, Try.ntmps18
  go_wp2
  go_loopw [0, 3, 4] (fun v o i wr => ∃ k : Nat, k ≤ 64 ∧ i = .int .i64 k ∧ v = .int .u64 ((x / 2 ^ k : Nat) : Int) ∧ RowB wr w.heap.size o (bitsL k x) ∧ Below w.heap.size w wr) (fun _ _ i _ => 64 - (intOf i).toNat)
  case atStart => exact ⟨0, Nat.zero_le _, rfl, by simp, RowB.nil _ _, Below.refl _ _⟩
  case round =>
    obtain ⟨k, hk, rfl, rfl, hr, hb⟩ := hrel
    have hz := hb.size
    by_cases hlt : k < 64
    · have hl := bitsL_len k x
      have HS := Lib.hid (bitsL_snoc k x)
      obtain ⟨y, hy⟩ : ∃ y, y = x / 2 ^ k := ⟨_, rfl⟩
      have hy2 : y < 18446744073709551616 := by rw [hy]; exact Nat.lt_of_le_of_lt (Nat.div_le_self _ _) hx
      have HD := Lib.hid (show x / 2 ^ (k + 1) = y / 2 by rw [hy, Nat.div_div_eq_div_mul, Nat.pow_succ])
      rw [← hy]
      rw [← hy] at HS
      obtain ⟨b, hbb⟩ : ∃ b, b = (y % 2 == 1) := ⟨_, rfl⟩
      rw [← hbb] at HS
      have e2 : ((y : Int) % 2 == 1) = b := (odd_eq y).trans hbb.symm
      have HR := Lib.hid (hr.later (below_box wr (.cells #[.bool b] 4)))
      have HB := Lib.hid (hb.alloc hz (.cells #[.bool b] 4))
      have HX := Lib.hid (Whole.made wr 4 #[.bool b])
      have hsz : (wr.alloc (.cells #[.bool b] 4)).heap.size = wr.heap.size + 1 := size_box _ _
      obtain ⟨acc, hacc⟩ : ∃ acc, acc = bitsL k x := ⟨_, rfl⟩
      rw [← hacc] at HR HS hl
      clear hr hb hbb hy hacc
      go_wp2_with (at_builtin; (refine rowB_new rfl _ _ rfl w.heap.size _ acc rfl HR.out wr.heap.size b rfl HX.out (by omega) (by rw [hsz]; omega) ?_; intro v2 w2 hr2 hb2; have HR2 := Lib.hid hr2; have HB2 := Lib.hid (HB.out.trans hb2); clear hr2 hb2))
      go_roundw
      case rel => exact ⟨k + 1, by omega, by go_num, by rw [HD.out, Int.natCast_ediv]; rfl, by rw [HS.out]; exact HR2.out, HB2.out⟩
      case measure => simp [intOf]; omega
    · obtain rfl : k = 64 := by omega
      obtain ⟨A, c, rfl, ho⟩ := hr.ob (by rw [bitsL_len]; omega)
      rw [bitsL_len]
      have HO := Lib.hid ho
      have HB := Lib.hid hb
      clear hr hb ho
      go_wp2
      go_ret
      exact ⟨A, c, rfl, HO.out, HB.out⟩
set_option maxHeartbeats 1000000 in
theorem numberw {w : World} {A : Option Addr} {c : Nat} {l : List Bool} (hl : LB w A l) (hn : l.length = 64) : Calls Try.prog 19 #[.slice A 64 c] w fun e w' => e = .returned (.int .u64 (numL l)) ∧ w = w' := by
  have HL := Lib.hid hl
  have hlt := numL_lt l
  rw [hn] at hlt
  clear hl
  go_enter Try.func19, Try.ntmps19
  go_wp2
  go_loop [3, 4] (fun v i => ∃ k : Nat, k ≤ 64 ∧ i = .int .i64 ((k : Int) - 1) ∧ v = .int .u64 (numL (l.drop k))) (fun _ i => (intOf i + 1).toNat)
  case atStart => exact ⟨64, Nat.le_refl _, rfl, by rw [List.drop_of_length_le (by omega)]; rfl⟩
  case round =>
    obtain ⟨k, hk, rfl, rfl⟩ := hrel
    cases k with
    | succ k =>
      obtain ⟨b, hb⟩ : ∃ b, l[k]? = some b := ⟨_, List.getElem?_eq_getElem (by omega)⟩
      obtain ⟨bl, off, rfl, _, hc⟩ := HL.out.at hb
      have HD := Lib.hid (show numL (l.drop k) = b.toNat + 2 * numL (l.drop (k + 1)) by
        obtain ⟨h1, h2⟩ := List.getElem?_eq_some_iff.1 hb
        rw [List.drop_eq_getElem_cons h1, h2]
        rfl)
      have h3 := numL_lt (l.drop k)
      have h4 : 2 ^ (l.drop k).length ≤ 2 ^ 64 := Nat.pow_le_pow_right (by omega) (by rw [List.length_drop]; omega)
      have h5 := HD.out
      have e0 : (((k + 1 : Nat) : Int) - 1) = k := by omega
      rw [e0]
      obtain ⟨y, hy⟩ : ∃ y, y = numL (l.drop (k + 1)) := ⟨_, rfl⟩
      rw [← hy] at h5 HD ⊢
      have q1 : IntKind.u64.wrap ((y : Int) * 2) = y * 2 := by simp only [IntKind.wrap, IntKind.bits, IntKind.signed]; cases b <;> simp at h5 ⊢ <;> omega
      have q2 : b = true → IntKind.u64.wrap ((y : Int) * 2 + 1) = y * 2 + 1 := by intro e; subst e; simp only [IntKind.wrap, IntKind.bits, IntKind.signed]; simp at h5 ⊢; omega
      cases b
      · clear hb hy h3 h4
        go_wp2
        go_round
        case rel => exact ⟨k, by omega, by go_num, by rw [HD.out]; simp; omega⟩
        case measure => (simp [intOf]; try omega)
      · have q3 := q2 rfl
        clear hb hy h3 h4 q2
        go_wp2
        go_round
        case rel => exact ⟨k, by omega, by go_num, by rw [HD.out]; simp; omega⟩
        case measure => (simp [intOf]; try omega)
    | zero =>
      go_wp2
      go_ret
      exact ⟨rfl, rfl⟩
theorem truthw (b : Bool) (w : World) : Calls Try.prog 42 #[.bool b] w fun e w' => e = .returned (.int .u64 (b.toNat : Nat)) ∧ w = w' := by
  cases b
  · go_enter Try.func42, Try.ntmps42
    go_wp2
    go_ret
    exact ⟨rfl, rfl⟩
  · go_enter Try.func42, Try.ntmps42
    go_wp2
    go_ret
    exact ⟨rfl, rfl⟩
end Go.Proofs.Ytjgdfajooccalaa

/- add, not, less, turned, shift, rotate of creelref19. (By gen/genBt.py.) -/
namespace Go.Proofs.Ytjgdfajooccalaa
open Go.RowKit
set_option linter.unusedVariables false
set_option maxRecDepth 100000

set_option maxHeartbeats 2000000 in
theorem addw {w : World} {A B : Option Addr} {c d : Nat} {a b : List Bool} (ha : LB w A a) (hb : LB w B b) (na : a.length = 64) (nb : b.length = 64) (z : Bool) :
    Calls Try.prog 20 #[.slice A 64 c, .slice B 64 d, .bool z] w (Ownw (addL a b z) w) := by
  have HA := Lib.hid ha
  have HB := Lib.hid hb
  have HAL := Lib.hid (addL_len a b z (by omega))
  clear ha hb
  go_enter Try.func20, Try.ntmps20
  go_wp2
  go_loopw [2, 7, 8] (fun cv o i wr => ∃ (k : Nat) (cc : Bool), k ≤ 64 ∧ i = .int .i64 k ∧ cv = .bool cc ∧ addL (a.drop k) (b.drop k) cc = (addL a b z).drop k ∧ RowB wr w.heap.size o ((addL a b z).take k) ∧ Below w.heap.size w wr) (fun _ _ i _ => 64 - (intOf i).toNat)
  case atStart => exact ⟨0, z, Nat.zero_le _, rfl, rfl, rfl, RowB.nil _ _, Below.refl _ _⟩
  case round =>
    obtain ⟨k, cc, hk, rfl, rfl, hd, hr, hbw⟩ := hrel
    by_cases hlt : k < 64
    · obtain ⟨x, hx⟩ : ∃ x, a[k]? = some x := ⟨_, List.getElem?_eq_getElem (by omega)⟩
      obtain ⟨y, hy⟩ : ∃ y, b[k]? = some y := ⟨_, List.getElem?_eq_getElem (by omega)⟩
      obtain ⟨bl, off, rfl, _, hc1⟩ := (HA.out.below hbw).at hx
      obtain ⟨bl2, off2, rfl, _, hc2⟩ := (HB.out.below hbw).at hy
      rw [drop_atB hx, drop_atB hy] at hd
      obtain ⟨n, hn⟩ : ∃ n, n = x.toNat + y.toNat + cc.toNat := ⟨_, rfl⟩
      have hd2 : ((n % 2 == 1) :: addL (a.drop (k + 1)) (b.drop (k + 1)) (decide (1 < n)) : List Bool) = (addL a b z).drop k := by rw [hn]; exact hd
      have HD := Lib.hid (cons_dropB hd2)
      have hx1 : x.toNat ≤ 1 := by cases x <;> decide
      have hy1 : y.toNat ≤ 1 := by cases y <;> decide
      have hc1' : cc.toNat ≤ 1 := by cases cc <;> decide
      obtain ⟨p, hp⟩ : ∃ p, p = x.toNat + y.toNat := ⟨_, rfl⟩
      have q1 : IntKind.u64.wrap ((x.toNat : Int) + (y.toNat : Int)) = p := by simp only [IntKind.wrap, IntKind.bits, IntKind.signed]; simp; omega
      have q2 : IntKind.u64.wrap ((p : Int) + (cc.toNat : Int)) = n := by simp only [IntKind.wrap, IntKind.bits, IntKind.signed]; simp; omega
      have HT1 := Lib.hid (fun W => truthw x W)
      have HT2 := Lib.hid (fun W => truthw y W)
      have HT3 := Lib.hid (fun W => truthw cc W)
      have HR := Lib.hid hr
      have HBW := Lib.hid hbw
      have hlen : ((addL a b z).take k).length ≤ 1000 := by rw [List.length_take]; omega
      obtain ⟨acc, hacc⟩ : ∃ acc, acc = (addL a b z).take k := ⟨_, rfl⟩
      rw [← hacc] at HR HD hlen
      obtain ⟨bb, hbb⟩ : ∃ bb, bb = (n % 2 == 1) := ⟨_, rfl⟩
      obtain ⟨cc2, hcc⟩ : ∃ cc2, cc2 = decide (1 < n) := ⟨_, rfl⟩
      rw [← hbb, ← hcc] at HD
      have e2 : ((n : Int) % 2 == 1) = bb := (odd_eq n).trans hbb.symm
      have hz := hbw.size
      have HR2 := Lib.hid (hr.later (below_box wr (.cells #[.bool bb] 4)).drew)
      have HB2 := Lib.hid (hbw.alloc hz (.cells #[.bool bb] 4)).drew
      have HX := Lib.hid (show Whole (wr.alloc (.cells #[.bool bb] 4)).drew wr.heap.size 4 #[.bool bb] from Whole.made wr 4 #[.bool bb])
      have hsz : (wr.alloc (.cells #[.bool bb] 4)).drew.heap.size = wr.heap.size + 1 := size_box _ _
      rw [← hacc] at HR2
      clear hr hbw hd hd2 hx hy hacc hn hp hbb HR
      obtain ⟨x1, ex⟩ : ∃ x1, x1 = x.toNat := ⟨_, rfl⟩
      obtain ⟨y1, ey⟩ : ∃ y1, y1 = y.toNat := ⟨_, rfl⟩
      obtain ⟨c1, ec⟩ : ∃ c1, c1 = cc.toNat := ⟨_, rfl⟩
      rw [← ex] at HT1 q1 hx1
      rw [← ey] at HT2 q1 hy1
      rw [← ec] at HT3 q2 hc1'
      clear ex ey ec
      have hS : (wr.drew.cell? ⟨bl, off + k, none⟩ = some (.bool x) ∧ wr.drew.cell? ⟨bl2, off2 + k, none⟩ = some (.bool y)) ∧ Below wr.heap.size wr wr.drew := ⟨⟨hc1, hc2⟩, (Below.refl _ _).drew⟩
      clear hc1 hc2
      go_upto_region 5 with fail
      refine wp_region_noPanic ?_
      refine wp_region_held_drew (S := fun W => (W.cell? ⟨bl, off + k, none⟩ = some (.bool x) ∧ W.cell? ⟨bl2, off2 + k, none⟩ = some (.bool y)) ∧ Below wr.heap.size wr W) (by kernel_rfl) hS (fun hHeld => ?_)
      clear hS
      (refine heldTake (i := 0) (oi := { dst := some 14, op := Op.move (Operand.tmp 0), type := 43, pos := "ref.go:41", after := #[], guard := none }) (v := ?_) rfl (by kernel_rfl) (by kernel_rfl) (by kernel_rfl) (by assumption) ?_ ?_; rotate_left; focus (refine .inl ⟨by kernel_rfl, ?_⟩; intro w hSw; (try dsimp only at hSw); go_simp; (try with_reducible rfl)); skip)
      (try simp only [Act.put, List.setIfInBounds_toArray, List.set_cons_zero, List.set_cons_succ])
      (refine heldTake (i := 1) (oi := { dst := some 15, op := Op.move (Operand.tmp 8), type := 3, pos := "ref.go:41", after := #[], guard := none }) (v := ?_) rfl (by kernel_rfl) (by kernel_rfl) (by kernel_rfl) (by assumption) ?_ ?_; rotate_left; focus (refine .inl ⟨by kernel_rfl, ?_⟩; intro w hSw; (try dsimp only at hSw); go_simp; (try with_reducible rfl)); skip)
      (try simp only [Act.put, List.setIfInBounds_toArray, List.set_cons_zero, List.set_cons_succ])
      (refine heldTake (i := 2) (oi := { dst := some 16, op := Op.indexAddr 43 (Operand.tmp 14) (Operand.tmp 15), type := 0, pos := "ref.go:41", after := #[{ on := 0, ground := Ground.data }, { on := 1, ground := Ground.data }], guard := none }) (v := ?_) rfl (by kernel_rfl) (by kernel_rfl) (by kernel_rfl) (by assumption) ?_ ?_; rotate_left; focus (refine .inl ⟨by kernel_rfl, ?_⟩; intro w hSw; (try dsimp only at hSw); go_simp; (try with_reducible rfl)); skip)
      (try simp only [Act.put, List.setIfInBounds_toArray, List.set_cons_zero, List.set_cons_succ])
      (refine heldTake (i := 3) (oi := { dst := some 17, op := Op.load 4 (Operand.tmp 16), type := 4, pos := "ref.go:41", after := #[{ on := 2, ground := Ground.data }], guard := none }) (v := ?_) rfl (by kernel_rfl) (by kernel_rfl) (by kernel_rfl) (by assumption) ?_ ?_; rotate_left; focus (refine .inl ⟨by kernel_rfl, ?_⟩; intro w hSw; (try dsimp only at hSw); go_simp; (try with_reducible rfl)); skip)
      (try simp only [Act.put, List.setIfInBounds_toArray, List.set_cons_zero, List.set_cons_succ])
      (refine heldTake (i := 5) (oi := { dst := some 19, op := Op.move (Operand.tmp 1), type := 43, pos := "ref.go:41", after := #[], guard := none }) (v := ?_) rfl (by kernel_rfl) (by kernel_rfl) (by kernel_rfl) (by assumption) ?_ ?_; rotate_left; focus (refine .inl ⟨by kernel_rfl, ?_⟩; intro w hSw; (try dsimp only at hSw); go_simp; (try with_reducible rfl)); skip)
      (try simp only [Act.put, List.setIfInBounds_toArray, List.set_cons_zero, List.set_cons_succ])
      (refine heldTake (i := 6) (oi := { dst := some 20, op := Op.move (Operand.tmp 8), type := 3, pos := "ref.go:41", after := #[], guard := none }) (v := ?_) rfl (by kernel_rfl) (by kernel_rfl) (by kernel_rfl) (by assumption) ?_ ?_; rotate_left; focus (refine .inl ⟨by kernel_rfl, ?_⟩; intro w hSw; (try dsimp only at hSw); go_simp; (try with_reducible rfl)); skip)
      (try simp only [Act.put, List.setIfInBounds_toArray, List.set_cons_zero, List.set_cons_succ])
      (refine heldTake (i := 7) (oi := { dst := some 21, op := Op.indexAddr 43 (Operand.tmp 19) (Operand.tmp 20), type := 0, pos := "ref.go:41", after := #[{ on := 5, ground := Ground.data }, { on := 6, ground := Ground.data }], guard := none }) (v := ?_) rfl (by kernel_rfl) (by kernel_rfl) (by kernel_rfl) (by assumption) ?_ ?_; rotate_left; focus (refine .inl ⟨by kernel_rfl, ?_⟩; intro w hSw; (try dsimp only at hSw); go_simp; (try with_reducible rfl)); skip)
      (try simp only [Act.put, List.setIfInBounds_toArray, List.set_cons_zero, List.set_cons_succ])
      (refine heldTake (i := 8) (oi := { dst := some 22, op := Op.load 4 (Operand.tmp 21), type := 4, pos := "ref.go:41", after := #[{ on := 7, ground := Ground.data }], guard := none }) (v := ?_) rfl (by kernel_rfl) (by kernel_rfl) (by kernel_rfl) (by assumption) ?_ ?_; rotate_left; focus (refine .inl ⟨by kernel_rfl, ?_⟩; intro w hSw; (try dsimp only at hSw); go_simp; (try with_reducible rfl)); skip)
      (try simp only [Act.put, List.setIfInBounds_toArray, List.set_cons_zero, List.set_cons_succ])
      (refine heldTake (i := 11) (oi := { dst := some 25, op := Op.move (Operand.tmp 2), type := 4, pos := "ref.go:41", after := #[], guard := none }) (v := ?_) rfl (by kernel_rfl) (by kernel_rfl) (by kernel_rfl) (by assumption) ?_ ?_; rotate_left; focus (refine .inl ⟨by kernel_rfl, ?_⟩; intro w hSw; (try dsimp only at hSw); go_simp; (try with_reducible rfl)); skip)
      (try simp only [Act.put, List.setIfInBounds_toArray, List.set_cons_zero, List.set_cons_succ])
      refine wpAnyH_ready (rs := [4]) (by kernel_rfl) (by simp) ?_
      refine (AllReadyH.cons (o := { dst := some 18, op := Op.call { callee := Callee.value (Operand.func 42), args := #[Operand.tmp 17], argTypes := #[4] }, type := 22, pos := "ref.go:41", after := #[{ on := 3, ground := Ground.data }], guard := none }) rfl (fun K hK => ?_) AllReadyH.nil)
      go_simp
      (go_at_call 42; (with_reducible refine (HT1.out _).mono ?_); rintro e w2 ⟨rfl, rfl⟩)
      refine hK.out _ _ hHeld (fun hHeld4 => ?_)
      clear hK K hHeld
      (try simp only [Act.put, List.setIfInBounds_toArray, List.set_cons_zero, List.set_cons_succ])
      refine wpAnyH_ready (rs := [9]) (by kernel_rfl) (by simp) ?_
      refine (AllReadyH.cons (o := { dst := some 23, op := Op.call { callee := Callee.value (Operand.func 42), args := #[Operand.tmp 22], argTypes := #[4] }, type := 22, pos := "ref.go:41", after := #[{ on := 8, ground := Ground.data }, { on := 4, ground := Ground.chain }], guard := none }) rfl (fun K hK => ?_) AllReadyH.nil)
      go_simp
      (go_at_call 42; (with_reducible refine (HT2.out _).mono ?_); rintro e w3 ⟨rfl, rfl⟩)
      refine hK.out _ _ hHeld4 (fun hHeld9 => ?_)
      clear hK K hHeld4
      (try simp only [Act.put, List.setIfInBounds_toArray, List.set_cons_zero, List.set_cons_succ])
      (refine heldTake (i := 10) (oi := { dst := some 24, op := Op.binOp BinOp.add 22 (Operand.tmp 18) (Operand.tmp 23) 22, type := 22, pos := "ref.go:41", after := #[{ on := 4, ground := Ground.data }, { on := 9, ground := Ground.data }], guard := none }) (v := ?_) rfl (by kernel_rfl) (by kernel_rfl) (by kernel_rfl) (by assumption) ?_ ?_; rotate_left; focus (refine .inl ⟨by kernel_rfl, ?_⟩; intro w hSw; (try dsimp only at hSw); go_simp; (try with_reducible rfl)); skip)
      (try simp only [Act.put, List.setIfInBounds_toArray, List.set_cons_zero, List.set_cons_succ])
      refine wpAnyH_ready (rs := [12]) (by kernel_rfl) (by simp) ?_
      refine (AllReadyH.cons (o := { dst := some 26, op := Op.call { callee := Callee.value (Operand.func 42), args := #[Operand.tmp 25], argTypes := #[4] }, type := 22, pos := "ref.go:41", after := #[{ on := 11, ground := Ground.data }, { on := 9, ground := Ground.chain }], guard := none }) rfl (fun K hK => ?_) AllReadyH.nil)
      go_simp
      (go_at_call 42; (with_reducible refine (HT3.out _).mono ?_); rintro e w4 ⟨rfl, rfl⟩)
      refine hK.out _ _ hHeld9 (fun hHeld12 => ?_)
      clear hK K hHeld9
      (try simp only [Act.put, List.setIfInBounds_toArray, List.set_cons_zero, List.set_cons_succ])
      (refine heldTake (i := 13) (oi := { dst := some 27, op := Op.binOp BinOp.add 22 (Operand.tmp 24) (Operand.tmp 26) 22, type := 22, pos := "ref.go:41", after := #[{ on := 10, ground := Ground.data }, { on := 12, ground := Ground.data }], guard := none }) (v := ?_) rfl (by kernel_rfl) (by kernel_rfl) (by kernel_rfl) (by assumption) ?_ ?_; rotate_left; focus (refine .inl ⟨by kernel_rfl, ?_⟩; intro w hSw; (try dsimp only at hSw); go_simp; (try with_reducible rfl)); skip)
      (try simp only [Act.put, List.setIfInBounds_toArray, List.set_cons_zero, List.set_cons_succ])
      (refine heldTake (i := 14) (oi := { dst := some 9, op := Op.assign (Operand.tmp 27), type := 22, pos := "ref.go:41", after := #[{ on := 13, ground := Ground.data }, { on := 12, ground := Ground.chain }, { on := 0, ground := Ground.phase }, { on := 1, ground := Ground.phase }, { on := 2, ground := Ground.phase }, { on := 3, ground := Ground.phase }, { on := 4, ground := Ground.phase }, { on := 5, ground := Ground.phase }, { on := 6, ground := Ground.phase }, { on := 7, ground := Ground.phase }, { on := 8, ground := Ground.phase }, { on := 9, ground := Ground.phase }, { on := 10, ground := Ground.phase }, { on := 11, ground := Ground.phase }, { on := 12, ground := Ground.phase }, { on := 13, ground := Ground.phase }], guard := none }) (v := ?_) rfl (by kernel_rfl) (by kernel_rfl) (by kernel_rfl) (by assumption) ?_ ?_; rotate_left; focus (refine .inl ⟨by kernel_rfl, ?_⟩; intro w hSw; (try dsimp only at hSw); go_simp; (try with_reducible rfl)); skip)
      (try simp only [Act.put, List.setIfInBounds_toArray, List.set_cons_zero, List.set_cons_succ])
      refine wpAnyH_done (by kernel_rfl) ?_ _
      refine NoPanic.normal ?_
      have hLast := hHeld12
      clear hHeld12
      go_wp2_with (at_builtin; (refine rowB_new rfl _ _ rfl w.heap.size _ acc rfl HR2.out wr.heap.size bb rfl HX.out (by omega) (by rw [hsz]; omega) ?_; intro v5 w5 hr5 hb5; have HR5 := Lib.hid hr5; have HB5 := Lib.hid (HB2.out.trans hb5); clear hr5 hb5))
      go_roundw
      case rel => exact ⟨k + 1, cc2, by omega, by go_num, (by rw [hcc]; exact congrArg Value.bool (decide_eq_decide.2 (by omega))), HD.out.1, by rw [HD.out.2]; exact HR5.out, HB5.out⟩
      case measure => simp [intOf]; omega
    · obtain rfl : k = 64 := by omega
      rw [List.take_of_length_le (by rw [HAL.out]; omega)] at hr
      obtain ⟨A9, c9, rfl, ho⟩ := hr.ob (by rw [HAL.out]; omega)
      rw [HAL.out, na]
      have HO := Lib.hid ho
      have HBW := Lib.hid hbw
      clear hr hbw ho hd
      go_wp2
      go_ret
      exact ⟨A9, c9, rfl, HO.out, HBW.out⟩
set_option maxHeartbeats 1000000 in
theorem notw {w : World} {A : Option Addr} {c : Nat} {a : List Bool} (ha : LB w A a) (na : a.length = 64) :
    Calls Try.prog 21 #[.slice A 64 c] w (Ownw (notL a) w) := by
  have HA := Lib.hid ha
  have HAL := Lib.hid (notL_len a)
  clear ha
  go_enter Try.func21, Try.ntmps21
  go_wp2
  go_loopw [3, 4] (fun o i wr => ∃ k : Nat, k ≤ 64 ∧ i = .int .i64 k ∧ RowB wr w.heap.size o ((notL a).take k) ∧ Below w.heap.size w wr) (fun _ i _ => 64 - (intOf i).toNat)
  case atStart => exact ⟨0, Nat.zero_le _, rfl, RowB.nil _ _, Below.refl _ _⟩
  case round =>
    obtain ⟨k, hk, rfl, hr, hbw⟩ := hrel
    have hz := hbw.size
    by_cases hlt : k < 64
    · obtain ⟨x, hx⟩ : ∃ x, a[k]? = some x := ⟨_, List.getElem?_eq_getElem (by omega)⟩
      obtain ⟨bl, off, rfl, _, hc1⟩ := (HA.out.below hbw).at hx
      have HD := Lib.hid (show (notL a).take (k + 1) = (notL a).take k ++ [!x] by rw [List.take_add_one]; unfold notL; rw [List.getElem?_map, hx]; rfl)
      have hlen : ((notL a).take k).length ≤ 1000 := by rw [List.length_take]; omega
      obtain ⟨acc, hacc⟩ : ∃ acc, acc = (notL a).take k := ⟨_, rfl⟩
      have HR2 := Lib.hid (hr.later (below_box wr (.cells #[.bool (!x)] 4)))
      have HB2 := Lib.hid (hbw.alloc hz (.cells #[.bool (!x)] 4))
      have HX := Lib.hid (Whole.made wr 4 #[.bool (!x)])
      have hsz : (wr.alloc (.cells #[.bool (!x)] 4)).heap.size = wr.heap.size + 1 := size_box _ _
      rw [← hacc] at HR2 HD hlen
      clear hr hbw hx hacc
      go_wp2_with (at_builtin; (refine rowB_new rfl _ _ rfl w.heap.size _ acc rfl HR2.out wr.heap.size (!x) rfl HX.out (by omega) (by rw [hsz]; omega) ?_; intro v5 w5 hr5 hb5; have HR5 := Lib.hid hr5; have HB5 := Lib.hid (HB2.out.trans hb5); clear hr5 hb5))
      go_roundw
      case rel => exact ⟨k + 1, by omega, by go_num, by rw [HD.out]; exact HR5.out, HB5.out⟩
      case measure => simp [intOf]; omega
    · obtain rfl : k = 64 := by omega
      rw [List.take_of_length_le (by rw [HAL.out]; omega)] at hr
      obtain ⟨A9, c9, rfl, ho⟩ := hr.ob (by rw [HAL.out]; omega)
      rw [HAL.out, na]
      have HO := Lib.hid ho
      have HBW := Lib.hid hbw
      clear hr hbw ho
      go_wp2
      go_ret
      exact ⟨A9, c9, rfl, HO.out, HBW.out⟩
set_option maxHeartbeats 1000000 in
theorem lessw {w : World} {A B : Option Addr} {c d : Nat} {a b : List Bool} (ha : LB w A a) (hb : LB w B b) (na : a.length = 64) (nb : b.length = 64) :
    Calls Try.prog 43 #[.slice A 64 c, .slice B 64 d] w fun e w' => e = .returned (.bool (lessL a b)) ∧ Below w.heap.size w w' := by
  have HA := Lib.hid ha
  have HB := Lib.hid hb
  clear ha hb
  go_enter Try.func43, Try.ntmps43
  go_wp2
  go_loopw [5] (fun i wr => ∃ k : Nat, k ≤ 64 ∧ i = .int .i64 ((k : Int) - 1) ∧ a.drop k = b.drop k ∧ Below w.heap.size w wr) (fun i _ => (intOf i + 1).toNat)
  case atStart => exact ⟨64, Nat.le_refl _, rfl, by rw [List.drop_of_length_le (by omega), List.drop_of_length_le (by omega)], Below.refl _ _⟩
  case round =>
    obtain ⟨k, hk, rfl, hd, hbw⟩ := hrel
    cases k with
    | succ k =>
      obtain ⟨x, hx⟩ : ∃ x, a[k]? = some x := ⟨_, List.getElem?_eq_getElem (by omega)⟩
      obtain ⟨y, hy⟩ : ∃ y, b[k]? = some y := ⟨_, List.getElem?_eq_getElem (by omega)⟩
      obtain ⟨bl, off, rfl, _, hc1⟩ := (HA.out.below hbw).at hx
      obtain ⟨bl2, off2, rfl, _, hc2⟩ := (HB.out.below hbw).at hy
      have e0 : (((k + 1 : Nat) : Int) - 1) = k := by omega
      rw [e0]
      by_cases hxy : x = y
      · subst hxy
        have HD := Lib.hid (show a.drop k = b.drop k by rw [drop_atB hx, drop_atB hy, hd])
        have HBW := Lib.hid hbw
        clear hd hbw hx hy
        go_upto_region 4 with fail
        cases x
        · go_quiet (fail)
          go_wp2
          go_roundw
          case rel => exact ⟨k, by omega, by go_num, HD.out, below_drewN HBW.out _⟩
          case measure => (simp [intOf]; try omega)
        · go_quiet (fail)
          go_wp2
          go_roundw
          case rel => exact ⟨k, by omega, by go_num, HD.out, below_drewN HBW.out _⟩
          case measure => (simp [intOf]; try omega)
      · have HL := Lib.hid (less_top hx hy hxy hd (by omega))
        have HBW := Lib.hid hbw
        clear hd hbw hx hy
        have e9 : x = !y := by cases x <;> cases y <;> simp at hxy ⊢
        subst e9
        clear hxy
        go_upto_region 4 with fail
        cases y
        · go_quiet (fail)
          have hc3 : (wr.drewN nq).cell? ⟨bl2, off2 + k, none⟩ = some (.bool false) := hc2
          go_wp2
          go_ret
          exact ⟨by rw [HL.out]; rfl, below_drewN HBW.out _⟩
        · go_quiet (fail)
          have hc3 : (wr.drewN nq).cell? ⟨bl2, off2 + k, none⟩ = some (.bool true) := hc2
          go_wp2
          go_ret
          exact ⟨by rw [HL.out]; rfl, below_drewN HBW.out _⟩
    | zero =>
      have HE := Lib.hid (show lessL a b = false by
        have e : a = b := by simpa using hd
        rw [e]; unfold lessL; simp)
      have HBW := Lib.hid hbw
      clear hd hbw
      go_wp2
      go_ret
      exact ⟨by rw [HE.out]; rfl, HBW.out⟩
set_option maxHeartbeats 1000000 in
theorem turnedw {w : World} {A : Option Addr} {c : Nat} {a : List Bool} (ha : LB w A a) (na : a.length = 64) :
    Calls Try.prog 58 #[.slice A 64 c] w (Ownw (turnL a) w) := by
  have HN := Lib.hid (fun W (h : LB W A a) => notw (c := c) h na)
  have hnl := notL_len a
  have HAD := Lib.hid (fun W A2 c2 A3 c3 (h : LB W A2 (notL a)) (h3 : LB W A3 (List.replicate 64 false)) => show Calls Try.prog 20 #[.slice A2 64 c2, .slice A3 64 c3, .bool true] W (Ownw (turnL a) W) from by
    have := addw (c := c2) (d := c3) h h3 (by rw [hnl, na]) (by simp) true
    unfold turnL
    rw [na]
    exact this)
  have hS : LB w.drew A a ∧ Below w.heap.size w w.drew := ⟨ha, (Below.refl _ _).drew⟩
  clear ha hnl
  go_enter Try.func58, Try.ntmps58
  go_upto_region 1 with fail
  refine wp_region_noPanic ?_
  refine wp_region_held_drew (S := fun W => LB W A a ∧ Below w.heap.size w W) (by kernel_rfl) hS (fun hHeld => ?_)
  clear hS
  (refine heldTake (i := 0) (oi := { dst := some 3, op := Op.move (Operand.tmp 0), type := 43, pos := "ref.go:68", after := #[], guard := none }) (v := ?_) rfl (by kernel_rfl) (by kernel_rfl) (by kernel_rfl) (by assumption) ?_ ?_; rotate_left; focus (refine .inl ⟨by kernel_rfl, ?_⟩; intro w hSw; (try dsimp only at hSw); go_simp; (try with_reducible rfl)); skip)
  (try simp only [Act.put, List.setIfInBounds_toArray, List.set_cons_zero, List.set_cons_succ])
  refine wpAnyH_ready (rs := [1, 2]) (by kernel_rfl) (by simp) ?_
  refine (AllReadyH.cons (o := { dst := some 4, op := Op.call { callee := Callee.value (Operand.func 21), args := #[Operand.tmp 3], argTypes := #[43] }, type := 43, pos := "ref.go:68", after := #[{ on := 0, ground := Ground.data }], guard := none }) rfl (fun K hK => ?_) (AllReadyH.cons (o := { dst := some 5, op := Op.makeSlice 43 (Operand.const (Value.int IntKind.i64 64)) (Operand.const (Value.int IntKind.i64 64)), type := 43, pos := "ref.go:68", after := #[], guard := none }) rfl (fun K hK => ?_) AllReadyH.nil))
  · go_simp
    (go_at_call 21; (with_reducible refine (HN.out _ hHeld.1).mono ?_); rintro e w2 ⟨A2, c2, rfl, ho2, hb2⟩; have HB1 := Lib.hid hb2; have HO1 := Lib.hid ho2.lb; clear hb2 ho2)
    refine hK.out _ _ ⟨hHeld.1.below HB1.out, hHeld.2.trans (HB1.out.mono hHeld.2.size)⟩ (fun hHeld1 => ?_)
    clear hK K hHeld
    (try simp only [Act.put, List.setIfInBounds_toArray, List.set_cons_zero, List.set_cons_succ])
    refine wpAnyH_ready (rs := [2]) (by kernel_rfl) (by simp) ?_
    refine (AllReadyH.cons (o := { dst := some 5, op := Op.makeSlice 43 (Operand.const (Value.int IntKind.i64 64)) (Operand.const (Value.int IntKind.i64 64)), type := 43, pos := "ref.go:68", after := #[], guard := none }) rfl (fun K hK => ?_) AllReadyH.nil)
    refine step_make rfl 64 (by omega) _ _ rfl rfl rfl ?_; intro g3 w3 hg3 hb3 ho3; have HB2 := Lib.hid hb3; have HO2 := Lib.hid ho3.lb; clear hb3 ho3
    refine hK.out _ _ ⟨hHeld1.1.below HB2.out, hHeld1.2.trans (HB2.out.mono hHeld1.2.size)⟩ (fun hHeld2 => ?_)
    clear hK K hHeld1
    (try simp only [Act.put, List.setIfInBounds_toArray, List.set_cons_zero, List.set_cons_succ])
    refine wpAnyH_ready (rs := [3]) (by kernel_rfl) (by simp) ?_
    refine (AllReadyH.cons (o := { dst := some 6, op := Op.call { callee := Callee.value (Operand.func 20), args := #[Operand.tmp 4, Operand.tmp 5, Operand.const (Value.bool true)], argTypes := #[43, 43, 4] }, type := 43, pos := "ref.go:68", after := #[{ on := 1, ground := Ground.data }, { on := 2, ground := Ground.data }, { on := 1, ground := Ground.chain }], guard := none }) rfl (fun K hK => ?_) AllReadyH.nil)
    go_simp
    (go_at_call 20; (with_reducible refine (HAD.out _ _ _ _ _ (((HO1.out).below HB2.out)) (HO2.out)).mono ?_); rintro e w4 ⟨A4, c4, rfl, ho4, hb4⟩; have HB3 := Lib.hid hb4; have HO3 := Lib.hid (ho4.mono hHeld2.2.size); clear hb4 ho4)
    refine hK.out _ _ ⟨hHeld2.1.below HB3.out, hHeld2.2.trans (HB3.out.mono hHeld2.2.size)⟩ (fun hHeld3 => ?_)
    clear hK K hHeld2
    (try simp only [Act.put, List.setIfInBounds_toArray, List.set_cons_zero, List.set_cons_succ])
    (refine heldTake (i := 4) (oi := { dst := some 2, op := Op.assign (Operand.tmp 6), type := 43, pos := "ref.go:68", after := #[{ on := 3, ground := Ground.data }, { on := 3, ground := Ground.chain }, { on := 0, ground := Ground.phase }, { on := 1, ground := Ground.phase }, { on := 2, ground := Ground.phase }, { on := 3, ground := Ground.phase }], guard := none }) (v := ?_) rfl (by kernel_rfl) (by kernel_rfl) (by kernel_rfl) (by assumption) ?_ ?_; rotate_left; focus (refine .inl ⟨by kernel_rfl, ?_⟩; intro w hSw; (try dsimp only at hSw); go_simp; (try with_reducible rfl)); skip)
    (try simp only [Act.put, List.setIfInBounds_toArray, List.set_cons_zero, List.set_cons_succ])
    refine wpAnyH_done (by kernel_rfl) ?_ _
    refine NoPanic.normal ?_
    have hLast := hHeld3
    clear hHeld3
    go_wp2
    go_ret
    exact ⟨A4, c4, rfl, HO3.out, hLast.2⟩
  · refine step_make rfl 64 (by omega) _ _ rfl rfl rfl ?_; intro g3 w3 hg3 hb3 ho3; have HB2 := Lib.hid hb3; have HO2 := Lib.hid ho3.lb; clear hb3 ho3
    refine hK.out _ _ ⟨hHeld.1.below HB2.out, hHeld.2.trans (HB2.out.mono hHeld.2.size)⟩ (fun hHeld2 => ?_)
    clear hK K hHeld
    (try simp only [Act.put, List.setIfInBounds_toArray, List.set_cons_zero, List.set_cons_succ])
    refine wpAnyH_ready (rs := [1]) (by kernel_rfl) (by simp) ?_
    refine (AllReadyH.cons (o := { dst := some 4, op := Op.call { callee := Callee.value (Operand.func 21), args := #[Operand.tmp 3], argTypes := #[43] }, type := 43, pos := "ref.go:68", after := #[{ on := 0, ground := Ground.data }], guard := none }) rfl (fun K hK => ?_) AllReadyH.nil)
    go_simp
    (go_at_call 21; (with_reducible refine (HN.out _ hHeld2.1).mono ?_); rintro e w2 ⟨A2, c2, rfl, ho2, hb2⟩; have HB1 := Lib.hid hb2; have HO1 := Lib.hid ho2.lb; clear hb2 ho2)
    refine hK.out _ _ ⟨hHeld2.1.below HB1.out, hHeld2.2.trans (HB1.out.mono hHeld2.2.size)⟩ (fun hHeld1 => ?_)
    clear hK K hHeld2
    (try simp only [Act.put, List.setIfInBounds_toArray, List.set_cons_zero, List.set_cons_succ])
    refine wpAnyH_ready (rs := [3]) (by kernel_rfl) (by simp) ?_
    refine (AllReadyH.cons (o := { dst := some 6, op := Op.call { callee := Callee.value (Operand.func 20), args := #[Operand.tmp 4, Operand.tmp 5, Operand.const (Value.bool true)], argTypes := #[43, 43, 4] }, type := 43, pos := "ref.go:68", after := #[{ on := 1, ground := Ground.data }, { on := 2, ground := Ground.data }, { on := 1, ground := Ground.chain }], guard := none }) rfl (fun K hK => ?_) AllReadyH.nil)
    go_simp
    (go_at_call 20; (with_reducible refine (HAD.out _ _ _ _ _ (HO1.out) (((HO2.out).below HB1.out))).mono ?_); rintro e w4 ⟨A4, c4, rfl, ho4, hb4⟩; have HB3 := Lib.hid hb4; have HO3 := Lib.hid (ho4.mono hHeld1.2.size); clear hb4 ho4)
    refine hK.out _ _ ⟨hHeld1.1.below HB3.out, hHeld1.2.trans (HB3.out.mono hHeld1.2.size)⟩ (fun hHeld3 => ?_)
    clear hK K hHeld1
    (try simp only [Act.put, List.setIfInBounds_toArray, List.set_cons_zero, List.set_cons_succ])
    (refine heldTake (i := 4) (oi := { dst := some 2, op := Op.assign (Operand.tmp 6), type := 43, pos := "ref.go:68", after := #[{ on := 3, ground := Ground.data }, { on := 3, ground := Ground.chain }, { on := 0, ground := Ground.phase }, { on := 1, ground := Ground.phase }, { on := 2, ground := Ground.phase }, { on := 3, ground := Ground.phase }], guard := none }) (v := ?_) rfl (by kernel_rfl) (by kernel_rfl) (by kernel_rfl) (by assumption) ?_ ?_; rotate_left; focus (refine .inl ⟨by kernel_rfl, ?_⟩; intro w hSw; (try dsimp only at hSw); go_simp; (try with_reducible rfl)); skip)
    (try simp only [Act.put, List.setIfInBounds_toArray, List.set_cons_zero, List.set_cons_succ])
    refine wpAnyH_done (by kernel_rfl) ?_ _
    refine NoPanic.normal ?_
    have hLast := hHeld3
    clear hHeld3
    go_wp2
    go_ret
    exact ⟨A4, c4, rfl, HO3.out, hLast.2⟩
end Go.Proofs.Ytjgdfajooccalaa
