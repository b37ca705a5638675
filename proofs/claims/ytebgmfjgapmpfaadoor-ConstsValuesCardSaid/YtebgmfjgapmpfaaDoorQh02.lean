/- A list of instructions that lies somewhere; Shape, the reference's Walk and Shape. -/
import Derived.Test.YtebgmfjgapmpfaaDoorQh01
import Derived.Test.YtebgmfjgapmpfaaDoorQg08
import Derived.RegionTactic
import Derived.Test.YtebgmfjgapmpfaaDoorQg07
import Derived.OwnWalk
namespace Go.Proofs.YtebgmfjgapmpfaaDoor
open Go.RowKit
set_option linter.unusedVariables false
set_option maxRecDepth 100000

/-- The instructions lie at A, one behind the other, each with its labels. -/
def Ins (w : World) (A : Option Addr) (l : List I) : Prop :=
  ∀ j i, l[j]? = some i → ∃ b off B c, A = some ⟨b, off, none⟩ ∧ b < w.heap.size ∧ (w.cell? ⟨b, off + j * 4, none⟩ = some (.int .u8 i.op.toNat) ∧ w.cell? ⟨b, off + j * 4 + 1, none⟩ = some (.int .u64 i.a) ∧
    w.cell? ⟨b, off + j * 4 + 2, none⟩ = some (.int .u64 i.b) ∧ w.cell? ⟨b, off + j * 4 + 3, none⟩ = some (.slice B i.l.length c)) ∧ LiesL w B i.l
theorem Ins.below {w w' : World} {A : Option Addr} {l : List I} (h : Ins w A l) (hb : Below w.heap.size w w') : Ins w' A l := fun j i hi => by
  obtain ⟨b, off, B, c, e, h1, ⟨k0, k1, k2, k3⟩, hl⟩ := h j i hi
  exact ⟨b, off, B, c, e, Nat.lt_of_lt_of_le h1 hb.size, ⟨(hb.cell (p := ⟨b, _, none⟩) h1).trans k0, (hb.cell (p := ⟨b, _, none⟩) h1).trans k1, (hb.cell (p := ⟨b, _, none⟩) h1).trans k2, (hb.cell (p := ⟨b, _, none⟩) h1).trans k3⟩, hl.below hb⟩
def opsOf (l : List I) : List UInt8 := l.map (·.op)
def shapeZ (l : List I) : Int := if shapeGo [] (opsOf l) = true then 0 else 30
theorem ops_drop {l : List I} {k : Nat} {i : I} (h : l[k]? = some i) : (opsOf l).drop k = i.op :: (opsOf l).drop (k + 1) := by
  unfold opsOf
  have hk := (List.getElem?_eq_some_iff.1 h)
  obtain ⟨h1, h2⟩ := hk
  rw [List.drop_eq_getElem_cons (by simpa using h1)]
  simp [h2]
/-- The total, seen from where the walk stands. -/
def Stand (l : List I) (k : Nat) (st : List UInt8) (en : Bool) : Prop := shapeGo [] (opsOf l) = (if en then ((opsOf l).drop k).isEmpty else shapeGo st ((opsOf l).drop k))
theorem Stand.step {l : List I} {k : Nat} {st : List UInt8} {i : I} (h : Stand l k st false) (hi : l[k]? = some i) : match addZ st i.op with
    | none => shapeGo [] (opsOf l) = false
    | some (st', en) => Stand l (k + 1) st' en := by
  unfold Stand at h
  rw [if_neg (by simp), ops_drop hi, shape_add] at h
  cases ha : addZ st i.op with
  | none => rw [ha] at h; exact h
  | some q =>
    obtain ⟨st', en⟩ := q
    rw [ha] at h
    cases en
    · exact h
    · exact h
theorem addZ_len {st st' : List UInt8} {op : UInt8} {en : Bool} (h : addZ st op = some (st', en)) : st'.length ≤ st.length + 1 := by
  unfold addZ at h
  repeat' split at h
  all_goals first | (injection h with h; injection h with h1 h2; subst h1; simp; omega) | (injection h with h; injection h with h1 h2; subst h1; simp) | cases h
/-- nest at block nb: its two cells, its row. -/
def Nest (w : World) (nb base : Nat) (st : List UInt8) (en : Bool) : Prop := ∃ v, Whole w nb 125 #[v, .bool en] ∧ Row w base v st
theorem Moved.below {nb base : Nat} {v : Value} {st st0 : List UInt8} {en : Bool} {W W' : World} (h : Moved nb base v st en W W') (hr : Row W base v st0) (hb : base ≤ W.heap.size) (hnb : base ≤ nb) : Below base W W' := by
  obtain ⟨v', Wm, h1, h2, h3, h4⟩ := h
  have b1 : Below base W Wm := Below.grown (Below.refl _ _) h3 hb (fun k hk => (World.ownsRow.lt hr k hk).1)
  exact Below.grown b1 h4 (Nat.le_trans hb h3.size) (fun k hk => by injection hk with hk; omega)
theorem Moved.nest {nb base : Nat} {v : Value} {st : List UInt8} {en : Bool} {W W' : World} (h : Moved nb base v st en W W') : Nest W' nb base st en := by
  obtain ⟨v', Wm, h1, h2, h3, h4⟩ := h
  exact ⟨v', h1, h2⟩
set_option maxHeartbeats 1000000 in
theorem shape_any {w : World} {A : Option Addr} {c : Nat} {l : List I} (hT : Tabs w) (hl : Ins w A l) (hn : l.length ≤ 20000) :
    Calls Tryd.prog 20 #[.slice A l.length c] w (IntPost (shapeZ l) w) := by
  have HL := Lib.hid hl
  have HT := Lib.hid hT
  have HN0 := Lib.hid (Whole.made w 125 #[.slice none 0 0, .bool false])
  obtain ⟨n, hnn⟩ : ∃ n, n = l.length := ⟨_, rfl⟩
  rw [← hnn] at hn ⊢
  have HNN := Lib.hid hnn
  have g0 : decide (20000 < (n : Int)) = false := decide_eq_false (by omega)
  clear hT hl hnn
  go_enter Tryd.func20, Tryd.ntmps20
  go_wp2
  go_loopw [11] (fun i wr => ∃ (k : Nat) (st : List UInt8) (en : Bool), k ≤ n ∧ i = .int .i64 k ∧ Nest wr w.heap.size w.heap.size st en ∧ st.length ≤ k ∧ Stand l k st en ∧ Below w.heap.size w wr ∧ w.heap.size < wr.heap.size) (fun i _ => n - (intOf i).toNat)
  case atStart => exact ⟨0, [], false, Nat.zero_le _, rfl, ⟨_, HN0.out, Row.nil _ _⟩, Nat.le_refl _, rfl, below_box w _, by simp⟩
  case round =>
    obtain ⟨k, st, en, hk, rfl, ⟨v, hnw, hrow⟩, hsl, hst, hb, hlt0⟩ := hrel
    by_cases hlt : k < n
    · obtain ⟨i, hi⟩ : ∃ i, l[k]? = some i := ⟨_, List.getElem?_eq_getElem (by rw [← HNN.out]; exact hlt)⟩
      obtain ⟨b, off, B, cc, rfl, hbl, ⟨k0, k1, k2, k3⟩, _⟩ := HL.out k i hi
      have m0 := (hb.cell (p := ⟨b, off + k * 4, none⟩) hbl).trans k0
      have m1 := (hb.cell (p := ⟨b, off + k * 4 + 1, none⟩) hbl).trans k1
      have m2 := (hb.cell (p := ⟨b, off + k * 4 + 2, none⟩) hbl).trans k2
      have m3 := (hb.cell (p := ⟨b, off + k * 4 + 3, none⟩) hbl).trans k3
      have HB := Lib.hid hb
      have HRW := Lib.hid (hrow.alloc (.cells (insC i B cc) 25))
      have HNW := Lib.hid (hnw.alloc (.cells (insC i B cc) 25))
      have HT2 := Lib.hid ((HT.out.below hb).below (below_box wr (.cells (insC i B cc) 25)))
      have hle : w.heap.size ≤ (wr.alloc (.cells (insC i B cc) 25)).heap.size := by rw [size_box]; omega
      cases en with
      | true =>
        have HS : Hid (shapeZ l = 30) := by
          unfold Stand at hst
          rw [if_pos rfl, ops_drop hi] at hst
          show shapeZ l = 30
          unfold shapeZ
          rw [hst, if_neg (by simp)]
        have HA := Lib.hid (add_ended HNW.out i.op)
        clear hnw hrow hst hb k0 k1 k2 k3 hi
        go_wp2_with (go_at_call 74; go_must ((with_reducible refine HA.out.mono ?_); rintro e w2 ⟨rfl, rfl⟩))
        go_ret
        exact ret_below HS.out.symm (HB.out.alloc (by omega) _)
      | false =>
        have hstep := hst.step hi
        cases ha : addZ st i.op with
        | none =>
          rw [ha] at hstep
          have HS : Hid (shapeZ l = 30) := by
            show shapeZ l = 30
            unfold shapeZ
            rw [hstep, if_neg (by simp)]
          have HA := Lib.hid (add_no HT2.out HNW.out HRW.out (by omega) ha)
          clear hnw hrow hst hb k0 k1 k2 k3 hi hstep ha
          go_wp2_with (go_at_call 74; go_must ((with_reducible refine HA.out.mono ?_); rintro e w2 ⟨rfl, hb2⟩; have HB2 := Lib.hid hb2; clear hb2))
          go_ret
          exact ret_below HS.out.symm ((HB.out.alloc (by omega) _).trans (HB2.out.mono hle))
        | some q =>
          obtain ⟨st', en'⟩ := q
          rw [ha] at hstep
          have HS := Lib.hid hstep
          have hl2 := addZ_len ha
          have HA := Lib.hid (add_ok HT2.out HNW.out HRW.out hle (by omega) ha)
          clear hnw hrow hst hb k0 k1 k2 k3 hi hstep ha
          go_wp2_with (go_at_call 74; go_must ((with_reducible refine HA.out.mono ?_); rintro e w2 ⟨rfl, hm⟩; have HM := Lib.hid hm; clear hm))
          go_roundw
          case rel =>
            have hbb := HM.out.below HRW.out hle (Nat.le_refl _)
            exact ⟨k + 1, st', en', by omega, by go_num, HM.out.nest, by omega, HS.out, (HB.out.alloc (by omega) _).trans hbb, by have := hbb.size; rw [size_box] at this; omega⟩
          case measure => simp [intOf]; omega
    · obtain rfl : k = n := by omega
      have c1 := hnw.cell 1
      simp only [List.getElem?_toArray, List.getElem?_cons_zero, List.getElem?_cons_succ] at c1
      have hd : (opsOf l).drop k = [] := List.drop_eq_nil_of_le (by unfold opsOf; rw [List.length_map, HNN.out]; exact Nat.le_refl _)
      unfold Stand at hst
      rw [hd] at hst
      have HB := Lib.hid hb
      cases en with
      | true =>
        have HS : Hid (shapeZ l = 0) := by show shapeZ l = 0; unfold shapeZ; rw [hst]; rfl
        clear hnw hrow hst hb hd
        go_wp2
        go_ret
        exact ret_below HS.out.symm HB.out
      | false =>
        have HS : Hid (shapeZ l = 30) := by
          show shapeZ l = 30
          unfold shapeZ
          rw [hst, if_neg (by unfold shapeGo; simp)]
        clear hnw hrow hst hb hd
        go_wp2
        go_ret
        exact ret_below HS.out.symm HB.out
end Go.Proofs.YtebgmfjgapmpfaaDoor

/- Instructions in a row of the call's own; blocks that are apart by their types; what is read lies behind a bound. -/
namespace Go.Proofs.YtebgmfjgapmpfaaDoor
open Go.RowKit
set_option linter.unusedVariables false
set_option maxRecDepth 100000

theorem infoIns : (Tryd.prog.info? 25).map (fun i => (i.zero, i.size, i.bytes)) = some (some (.agg #[.int .u8 0, .int .u64 0, .int .u64 0, .slice none 0 0]), 4, 48) := by kernel_rfl
abbrev Slot := I × Option Addr × Nat
def rowC (x : Slot) : List Value := [.int .u8 x.1.op.toNat, .int .u64 x.1.a, .int .u64 x.1.b, .slice x.2.1 x.1.l.length x.2.2]
def RowI (W : World) (base : Nat) (v : Value) (rows : List Slot) : Prop := W.ownsRow base 25 4 v rows.length (rows.flatMap rowC)
theorem own_own {W : World} {b b' : Nat} {e e' : TypeId} {s s' n n' : Nat} {v v' : Value} {xs xs' : List Value} (h : W.ownsRow b e s v n xs) (h' : W.ownsRow b' e' s' v' n' xs') (ht : e ≠ e') : v.ownBlock = none ∨ v.ownBlock ≠ v'.ownBlock := by
  rcases h.2 with ⟨rfl, _⟩ | ⟨g, cap, cur, rfl, _, hg, _⟩
  · exact .inl rfl
  · exact .inr (own_whole h' (show Whole W g e cur from hg) ht)
theorem own_far {W : World} {b : Nat} {e : TypeId} {s n q : Nat} {v : Value} {xs : List Value} {t : TypeId} {cs : Array Value} (h : W.ownsRow b e s v n xs) (hw : Whole W q t cs) (ht : t ≠ e) : v.ownBlock = none ∨ v.ownBlock ≠ some q := .inr (fun e2 => own_whole h hw ht e2.symm)
/-- append of a new block of one instruction. -/
theorem rowsI_new {w : World} {ops : Array Oper} {rest : List Oper} {o : Oper} {a : Act} {Q : Exit → Act → World → Prop} (hgd : o.guard = none) (s x : Operand)
    (ho : o.op = .call { callee := .builtin .append, args := #[s, x], argTypes := #[40, 40] })
    (B : Nat) (v : Value) (l : List Slot) (hs : a.eval s = v) (hr : RowI w B v l) (g : Nat) (r : Slot) (hx : a.eval x = .slice (some ⟨g, 0, none⟩) 1 1)
    (hg : Whole w g 25 (rowC r).toArray) (hb : l.length ≤ 1000) (hB : B ≤ w.heap.size)
    (h : ∀ v' w', RowI w' B v' (l ++ [r]) → w.grownBy w' v.ownBlock → wpList Tryd.prog ops Q rest (a.put o.dst v') w') : wpList Tryd.prog ops Q (o :: rest) a w := by
  obtain ⟨i0, hi0, hz0, hz1, hz2⟩ := info_parts infoIns
  refine wpList_append_own _ hgd s x _ ho B 25 i0 _ 4 48 Tryd.underlying40 hi0 hz0 hz1 hz2 rfl (by omega) v _ _ hs hr ⟨g, 0, none⟩ 1 1 (rowC r) hx rfl ?_ ?_ (by unfold maxLen; omega) (by omega) hB (fun v' w' h2 h3 _ => h v' w' ?_ h3)
  · intro j u hu
    rw [Go.WideShapes.add_plain, Nat.zero_add, hg.cell]
    simpa using hu
  · intro u hu
    unfold rowC at hu
    simp only [List.mem_cons, List.not_mem_nil, or_false] at hu
    rcases hu with rfl | rfl | rfl | rfl <;> rfl
  · unfold RowI
    rw [List.length_append, List.flatMap_append]
    simpa using h2
theorem flatI_get : ∀ (l : List Slot) (j : Nat) (x : Slot) (u : Nat), l[j]? = some x → u < 4 → (l.flatMap rowC)[j * 4 + u]? = (rowC x)[u]?
  | [], j, x, u, h, _ => by cases h
  | y :: l, 0, x, u, h, hu => by
    injection h with h
    subst h
    rw [List.flatMap_cons, Nat.zero_mul, Nat.zero_add, List.getElem?_append_left (by show u < 4; exact hu)]
  | y :: l, j + 1, x, u, h, hu => by
    rw [List.flatMap_cons, List.getElem?_append_right (by show 4 ≤ _; omega)]
    have e : (j + 1) * 4 + u - (rowC y).length = j * 4 + u := by show (j + 1) * 4 + u - 4 = _; omega
    rw [e]
    exact flatI_get l j x u h hu
/-- Instructions that lie behind a bound. -/
def InsF (lo : Nat) (w : World) (A : Option Addr) (l : List I) : Prop :=
  ∀ j i, l[j]? = some i → ∃ b off B c, A = some ⟨b, off, none⟩ ∧ lo ≤ b ∧ b < w.heap.size ∧ (w.cell? ⟨b, off + j * 4, none⟩ = some (.int .u8 i.op.toNat) ∧ w.cell? ⟨b, off + j * 4 + 1, none⟩ = some (.int .u64 i.a) ∧
    w.cell? ⟨b, off + j * 4 + 2, none⟩ = some (.int .u64 i.b) ∧ w.cell? ⟨b, off + j * 4 + 3, none⟩ = some (.slice B i.l.length c)) ∧ LiesL w B i.l ∧ ∀ a, B = some a → lo ≤ a.block
theorem InsF.ins {lo : Nat} {w : World} {A : Option Addr} {l : List I} (h : InsF lo w A l) : Ins w A l := fun j i hi => by
  obtain ⟨b, off, B, c, e, h1, h2, hk, hl, _⟩ := h j i hi
  exact ⟨b, off, B, c, e, h2, hk, hl⟩
theorem InsF.mono {lo lo' : Nat} {w : World} {A : Option Addr} {l : List I} (h : InsF lo w A l) (hle : lo' ≤ lo) : InsF lo' w A l := fun j i hi => by
  obtain ⟨b, off, B, c, e, h1, h2, hk, hl, hf⟩ := h j i hi
  exact ⟨b, off, B, c, e, by omega, h2, hk, hl, fun a ha => Nat.le_trans hle (hf a ha)⟩
theorem InsF.keep {lo : Nat} {w w' : World} {A : Option Addr} {l : List I} {q : Nat} (h : InsF lo w A l) (hg : w.grownBy w' (some q)) (hq : q < lo) : InsF lo w' A l := fun j i hi => by
  obtain ⟨b, off, B, c, e, h1, h2, ⟨k0, k1, k2, k3⟩, hl, hf⟩ := h j i hi
  have hc : ∀ o, w'.cell? ⟨b, o, none⟩ = w.cell? ⟨b, o, none⟩ := fun o => by
    unfold World.cell?
    rw [hg.block b h2 (by simp only [ne_eq, Option.some.injEq]; omega)]
  exact ⟨b, off, B, c, e, h1, Nat.lt_of_lt_of_le h2 hg.size, ⟨(hc _).trans k0, (hc _).trans k1, (hc _).trans k2, (hc _).trans k3⟩, Lies.keep hl hg (fun a ha => by have := hf a ha; omega), hf⟩
/-- What a row of instructions reads as. -/
theorem RowI.insF {W : World} {base : Nat} {v : Value} {rows : List Slot} (h : RowI W base v rows) (hl : ∀ x ∈ rows, LabT W x.2.1 x.1.l ∧ ∀ a, x.2.1 = some a → base ≤ a.block) : ∃ A c, v = .slice A rows.length c ∧ InsF base W A (rows.map (·.1)) := by
  rcases h.2 with ⟨rfl, h0⟩ | ⟨g, cap, cur, rfl, hb, hg, _, _, _, ht⟩
  · have : rows = [] := List.eq_nil_of_length_eq_zero h0
    subst this
    exact ⟨none, 0, rfl, fun j i hi => by cases hi⟩
  · refine ⟨some ⟨g, 0, none⟩, cap, rfl, fun j i hi => ?_⟩
    obtain ⟨x, hx, rfl⟩ : ∃ x, rows[j]? = some x ∧ x.1 = i := by
      rw [List.getElem?_map] at hi
      cases hx : rows[j]? with
      | none => rw [hx] at hi; cases hi
      | some x => rw [hx] at hi; injection hi with hi; exact ⟨x, rfl, hi⟩
    have hj := (List.getElem?_eq_some_iff.1 hx).1
    have key : ∀ u, u < 4 → W.cell? ⟨g, 0 + j * 4 + u, none⟩ = (rowC x)[u]? := fun u hu => by
      rw [cell_of_row W g (0 + j * 4 + u) cur _ _ hg, ← flatI_get rows j x u hx hu, ← ht, List.getElem?_take, if_pos (by omega)]
      simp
    obtain ⟨h1, h2⟩ := hl x (List.mem_of_getElem? hx)
    exact ⟨g, 0, x.2.1, x.2.2, rfl, hb, (Array.getElem?_eq_some_iff.1 hg).1, ⟨key 0 (by omega), key 1 (by omega), key 2 (by omega), key 3 (by omega)⟩, h1.lies, h2⟩
end Go.Proofs.YtebgmfjgapmpfaaDoor

/- GetBody of a body's bytes. -/
namespace Go.Proofs.YtebgmfjgapmpfaaDoor
open Go.RowKit
set_option linter.unusedVariables false
set_option maxRecDepth 100000

theorem take_snocG {α : Type} {l : List α} {k : Nat} {c : α} (h : l[k]? = some c) : l.take (k + 1) = l.take k ++ [c] := by
  rw [List.take_add_one, h]; rfl
/-- A body's bytes. -/
noncomputable def bodyL (l : List I) : List UInt8 := l.flatMap putL
theorem bodyL_snoc {l : List I} {k : Nat} {i : I} (h : l[k]? = some i) : bodyL (l.take (k + 1)) = bodyL (l.take k) ++ putL i := by
  unfold bodyL
  rw [take_snocG h, List.flatMap_append]
  simp
theorem bodyL_at {l : List I} {k : Nat} {i : I} (h : l[k]? = some i) : bodyL l = bodyL (l.take k) ++ (putL i ++ bodyL (l.drop (k + 1))) := by
  have e1 : l = l.take k ++ i :: l.drop (k + 1) := by
    obtain ⟨hj3, hj4⟩ := List.getElem?_eq_some_iff.1 h
    rw [← hj4, ← List.drop_eq_getElem_cons hj3, List.take_append_drop]
  conv => lhs; rw [e1]
  unfold bodyL
  rw [List.flatMap_append, List.flatMap_cons]
def lenOf : Value → Nat
  | .slice _ n _ => n
  | _ => 0
/-- How far GetBody has come; nest's block is the first of the call's own. -/
structure GB (w : World) (p : Nat) (l : List UInt8) (full : List I) (k0 k : Nat) (v : Value) (rows : List Slot) (st : List UInt8) (en : Bool) (W : World) : Prop where
  sc : Sc W p l k0
  gr : w.grownBy W (some p)
  row : RowI W w.heap.size v rows
  eq : rows.map (·.1) = full.take k
  labs : ∀ x ∈ rows, LabT W x.2.1 x.1.l ∧ ∀ a, x.2.1 = some a → w.heap.size ≤ a.block
  hp : p < w.heap.size
  tb : TbP p W
  hk : k ≤ full.length
  sl : st.length ≤ k
  st : Stand full k st en
section
variable {w : World} {p : Nat} {l : List UInt8} {full : List I} {k0 k : Nat} {v : Value} {rows : List Slot} {st : List UInt8} {en : Bool} {W W' : World}
theorem GB.size (h : GB w p l full k0 k v rows st en W) : w.heap.size ≤ W.heap.size := h.gr.size
theorem GB.len (h : GB w p l full k0 k v rows st en W) : rows.length = k := by
  have := congrArg List.length h.eq
  rw [List.length_map, List.length_take] at this
  have := h.hk
  omega
/-- A block that is no row of instructions and holds no labels is written. -/
theorem GB.put (h : GB w p l full k0 k v rows st en W) {q : Nat} (hg : W.grownBy W' (some q)) (hq : w.heap.size ≤ q) (h1 : v.ownBlock = none ∨ v.ownBlock ≠ some q) (h2 : ∀ x ∈ rows, ∀ a, x.2.1 = some a → some a.block ≠ some q) : GB w p l full k0 k v rows st en W' :=
  have hp := h.hp
  ⟨h.sc.grown hg (by simp only [ne_eq, Option.some.injEq]; omega) (fun g e => by injection e with e; omega), gb_before h.gr hg (fun g e => .inr (by injection e with e; omega)), World.ownsRow.kept h.row hg h1, h.eq,
    fun x hx => ⟨(h.labs x hx).1.keep hg (h2 x hx), (h.labs x hx).2⟩, h.hp, h.tb.grown hg (fun g e => by injection e with e; omega), h.hk, h.sl, h.st⟩
/-- A block of another type. -/
theorem GB.putT (h : GB w p l full k0 k v rows st en W) {q : Nat} {t : TypeId} {cs : Array Value} (hw : Whole W q t cs) (hg : W.grownBy W' (some q)) (hq : w.heap.size ≤ q) (t1 : t ≠ 25) (t2 : t ≠ 48) : GB w p l full k0 k v rows st en W' :=
  h.put hg hq (own_far h.row hw t1) (fun x hx => (h.labs x hx).1.apart hw t2)
theorem GB.below (h : GB w p l full k0 k v rows st en W) (hb : Below W.heap.size W W') : GB w p l full k0 k v rows st en W' :=
  ⟨h.sc.below hb, gb_trans h.gr (gb_of_below _ hb), World.ownsRow.kept h.row (gb_of_below none hb) (by cases v.ownBlock with
    | none => exact .inl rfl
    | some g => exact .inr (by simp)), h.eq, fun x hx => ⟨(h.labs x hx).1.keep (gb_of_below none hb) (fun a _ => by simp), (h.labs x hx).2⟩, h.hp, h.tb.grown (gb_of_below none hb) (fun g e => by cases e), h.hk, h.sl, h.st⟩
/-- A step of nest. -/
theorem GB.moved (h : GB w p l full k0 k v rows st en W) {nb : Nat} {vo : Value} {so st' : List UInt8} {en' : Bool} {cs : Array Value} (hm : Moved nb w.heap.size vo st' en' W W') (hr : Row W w.heap.size vo so) (hw : Whole W nb 125 cs) (hnb : w.heap.size ≤ nb) : GB w p l full k0 k v rows st en W' := by
  obtain ⟨v', Wm, h1, h2, h3, h4⟩ := hm
  have hm1 : GB w p l full k0 k v rows st en Wm := by
    have hlt := World.ownsRow.lt hr
    have hp := h.hp
    refine ⟨h.sc.grown h3 (fun e => by have := hlt p e.symm; omega) (fun g e => by have := hlt g e; omega), gb_before h.gr h3 (fun g e => .inr (hlt g e).1), World.ownsRow.kept h.row h3 (own_own h.row hr (by decide)), h.eq, fun x hx => ⟨(h.labs x hx).1.keep h3 (lab_own (h.labs x hx).1 hr (by decide)), (h.labs x hx).2⟩, h.hp, h.tb.grown h3 (fun g e => by have := hlt g e; omega), h.hk, h.sl, h.st⟩
  exact hm1.putT (hw.grown h3 (own_whole hr hw (by decide))) h4 hnb (by decide) (by decide)
theorem Moved.whole {nb base q : Nat} {vo : Value} {so st' : List UInt8} {en' : Bool} {t : TypeId} {cs cs' : Array Value} (hm : Moved nb base vo st' en' W W') (hr : Row W base vo so) (hn : Whole W nb 125 cs') (hw : Whole W q t cs) (t1 : t ≠ 5) (t2 : t ≠ 125) : Whole W' q t cs := by
  obtain ⟨v', Wm, h1, h2, h3, h4⟩ := hm
  have hq : q ≠ nb := hw.apart hn t2
  exact (hw.grown h3 (own_whole hr hw t1)).grown h4 (by simp only [ne_eq, Option.some.injEq]; exact hq)
theorem GB.got {k2 : Nat} (h : GB w p l full k0 k v rows st en W) (hs : Sc W' p l k2) (hg : W.grownBy W' (some p)) : GB w p l full k2 k v rows st en W' := by
  have hp := h.hp
  have hlt := World.ownsRow.lt h.row
  obtain ⟨A, cap, hw, _⟩ := h.sc
  exact ⟨hs, gb_trans h.gr hg, World.ownsRow.kept h.row hg (.inr (fun e => by have := hlt p e; omega)), h.eq, fun x hx => ⟨(h.labs x hx).1.keep hg ((h.labs x hx).1.apart hw (by decide)), (h.labs x hx).2⟩, h.hp, h.tb.self hg, h.hk, h.sl, h.st⟩
theorem LabT.moved {nb base : Nat} {vo : Value} {so st' : List UInt8} {en' : Bool} {cs' : Array Value} {A : Option Addr} {ls : List Int} (h : LabT W A ls) (hm : Moved nb base vo st' en' W W') (hr : Row W base vo so) (hn : Whole W nb 125 cs') : LabT W' A ls := by
  rcases h with h | ⟨g, cur, rfl, hw, ht⟩
  · exact .inl h
  · exact .inr ⟨g, cur, rfl, hm.whole hr hn hw (by decide) (by decide), ht⟩
theorem LabT.below {A : Option Addr} {ls : List Int} (h : LabT W A ls) (hb : Below W.heap.size W W') : LabT W' A ls := h.keep (gb_of_below none hb) (fun a _ => by simp)
/-- One more instruction is appended. -/
theorem GB.app (h : GB w p l full k0 k v rows st en W) {x : Slot} {v' : Value} {st' : List UInt8} {en' : Bool} (hx : full[k]? = some x.1) (hl : LabT W x.2.1 x.1.l ∧ ∀ a, x.2.1 = some a → w.heap.size ≤ a.block) (hr : RowI W' w.heap.size v' (rows ++ [x])) (hg : W.grownBy W' v.ownBlock)
    (hsl : st'.length ≤ k + 1) (hst : Stand full (k + 1) st' en') : GB w p l full k0 (k + 1) v' (rows ++ [x]) st' en' W' := by
  have hlt := World.ownsRow.lt h.row
  have hp := h.hp
  have hk := (List.getElem?_eq_some_iff.1 hx).1
  refine ⟨h.sc.grown hg (fun e => by have := hlt p e.symm; omega) (fun g e => by have := hlt g e; omega), gb_before h.gr hg (fun g e => .inr (hlt g e).1), hr, by rw [List.map_append, h.eq, take_snocG hx]; rfl, fun y hy => ?_, h.hp, h.tb.grown hg (fun g e => by have := hlt g e; omega), by omega, hsl, hst⟩
  rcases List.mem_append.1 hy with hy | hy
  · exact ⟨(h.labs y hy).1.keep hg (lab_own (h.labs y hy).1 h.row (by decide)), (h.labs y hy).2⟩
  · rw [List.mem_singleton] at hy
    subst hy
    exact ⟨hl.1.keep hg (lab_own hl.1 h.row (by decide)), hl.2⟩
end
/-- A row of instructions of the call's own; the labels of each lie behind the row's bound. -/
structure RowIL (W : World) (base : Nat) (v : Value) (rows : List Slot) : Prop where
  own : RowI W base v rows
  labs : ∀ x ∈ rows, LabT W x.2.1 x.1.l ∧ ∀ a, x.2.1 = some a → base ≤ a.block
theorem RowIL.nil (W : World) (base : Nat) : RowIL W base (.slice none 0 0) [] := ⟨World.ownsRow_nil W base _ 4, fun x hx => by cases hx⟩
theorem RowIL.lt {W : World} {base : Nat} {v : Value} {rows : List Slot} (h : RowIL W base v rows) : ∀ k, v.ownBlock = some k → base ≤ k ∧ k < W.heap.size := World.ownsRow.lt h.own
theorem RowIL.past {W W' : World} {base b : Nat} {v : Value} {rows : List Slot} (h : RowIL W base v rows) (hg : W.grownBy W' (some b)) (hb : b < base) : RowIL W' base v rows :=
  ⟨World.ownsRow.kept h.own hg (by
    cases hv : v.ownBlock with
    | none => exact .inl rfl
    | some k => exact .inr (by have := (World.ownsRow.lt h.own k hv).1; simp only [ne_eq, Option.some.injEq]; omega)),
   fun x hx => ⟨(h.labs x hx).1.keep hg (fun a ha => by have := (h.labs x hx).2 a ha; simp only [ne_eq, Option.some.injEq]; omega), (h.labs x hx).2⟩⟩
theorem RowIL.later {W W' : World} {base : Nat} {v : Value} {rows : List Slot} (h : RowIL W base v rows) (hb : Below W.heap.size W W') : RowIL W' base v rows :=
  ⟨World.ownsRow.kept h.own (gb_of_below none hb) (by cases v.ownBlock with
    | none => exact .inl rfl
    | some k => exact .inr (by simp)), fun x hx => ⟨(h.labs x hx).1.keep (gb_of_below none hb) (fun a _ => by simp), (h.labs x hx).2⟩⟩
theorem RowIL.mono {W : World} {base base' : Nat} {v : Value} {rows : List Slot} (h : RowIL W base v rows) (hb : base' ≤ base) : RowIL W base' v rows := by
  obtain ⟨⟨h1, h2⟩, h3⟩ := h
  refine ⟨⟨h1, ?_⟩, fun x hx => ⟨(h3 x hx).1, fun a ha => Nat.le_trans hb ((h3 x hx).2 a ha)⟩⟩
  rcases h2 with h2 | ⟨g, cap, cur, e, hg, r⟩
  · exact .inl h2
  · exact .inr ⟨g, cap, cur, e, Nat.le_trans hb hg, r⟩
/-- A row of another type grows. -/
theorem RowIL.beside {W W' : World} {base b : Nat} {e : TypeId} {s n : Nat} {v u : Value} {xs : List Value} {rows : List Slot} (h : RowIL W base v rows) (hr : W.ownsRow b e s u n xs) (hg : W.grownBy W' u.ownBlock) (t1 : 25 ≠ e) (t2 : 48 ≠ e) : RowIL W' base v rows :=
  ⟨World.ownsRow.kept h.own hg (own_own h.own hr t1), fun x hx => ⟨(h.labs x hx).1.keep hg (lab_own (h.labs x hx).1 hr t2), (h.labs x hx).2⟩⟩
theorem RowIL.insF {W : World} {base n c : Nat} {A : Option Addr} {rows : List Slot} (h : RowIL W base (.slice A n c) rows) : InsF base W A (rows.map (·.1)) := by
  obtain ⟨B, d, e, hi⟩ := h.own.insF h.labs
  injection e with e1 e2 e3
  rw [e1]
  exact hi
/-- What GetBody hands back. -/
def GotB (p : Nat) (l : List UInt8) (full : List I) (k : Nat) (w : World) (e : Ending) (w' : World) : Prop :=
  ∃ A c rows, e = .returned (.slice A full.length c) ∧ RowIL w' w.heap.size (.slice A full.length c) rows ∧ rows.map (·.1) = full ∧ Sc w' p l k ∧ w.grownBy w' (some p)
set_option maxHeartbeats 2000000 in
theorem getBody_ok {w : World} {p : Nat} {l r : List UInt8} {k0 : Nat} {full : List I} (hall : ∀ i ∈ full, i.Ok ∧ rightZ i = 0) (hbody : shapeGo [] (opsOf full) = true) (hn : full.length ≤ 1000) (hs : Sc w p l k0) (hT : TbP p w) (hd : l.drop k0 = bodyL full ++ r) :
    Calls Tryd.prog 76 #[.pointer (some ⟨p, 0, none⟩)] w (GotB p l full (k0 + (bodyL full).length) w) := by
  have hlt := hs.lt
  have HALL := Lib.hid hall
  have HD := Lib.hid hd
  have H0 : Hid (GB w p l full (k0 + (bodyL (full.take 0)).length) 0 (.slice none 0 0) [] [] false (w.alloc (.cells #[.slice none 0 0, .bool false] 125))) :=
    ⟨by show Sc _ p l (k0 + 0); exact hs.alloc _, gb_alloc (gb_refl w _) _, World.ownsRow_nil _ _ _ _, rfl, (fun x hx => by cases hx), hlt, hT.below (below_box w _) (by omega), Nat.zero_le _, Nat.le_refl _, rfl⟩
  have HN0 := Lib.hid (Whole.made w 125 #[.slice none 0 0, .bool false])
  have HBD := Lib.hid hbody
  clear hs hT hd hall hbody
  go_enter Tryd.func76, Tryd.ntmps76
  go_wp2
  go_loopw [3] (fun v wr => ∃ (k : Nat) (rows : List Slot) (st : List UInt8) (en : Bool), GB w p l full (k0 + (bodyL (full.take k)).length) k v rows st en wr ∧ Nest wr w.heap.size w.heap.size st en ∧ w.heap.size < wr.heap.size) (fun v _ => full.length - lenOf v)
  case atStart => exact ⟨0, [], [], false, H0.out, ⟨_, HN0.out, Row.nil _ _⟩, by simp⟩
  case round =>
    obtain ⟨k, rows, st, en, hgb, ⟨vo, hnw, hrow⟩, hlt0⟩ := hrel
    have hlen := hgb.len
    have hkn := hgb.hk
    obtain ⟨A, cc, rfl, hins⟩ := hgb.row.insF hgb.labs
    rw [hlen] at hgb ⊢
    have c1 := hnw.cell 1
    simp only [List.getElem?_toArray, List.getElem?_cons_zero, List.getElem?_cons_succ] at c1
    cases en with
    | true =>
      have hk : k = full.length := by
        have h := hgb.st
        unfold Stand at h
        rw [HBD.out, if_pos rfl] at h
        have h2 := List.isEmpty_iff.1 h.symm
        rw [List.drop_eq_nil_iff] at h2
        unfold opsOf at h2
        rw [List.length_map] at h2
        omega
      have HI : Hid (RowIL wr w.heap.size (.slice A full.length cc) rows ∧ rows.map (·.1) = full) := by
        refine ⟨⟨?_, hgb.labs⟩, ?_⟩
        · have h := hgb.row
          rw [hk] at h
          exact h
        · rw [hgb.eq, hk, List.take_of_length_le (Nat.le_refl _)]
      have HS : Hid (Sc wr p l (k0 + (bodyL full).length)) := by
        have h := hgb.sc
        rw [hk, List.take_of_length_le (Nat.le_refl _)] at h
        exact h
      have HG := Lib.hid hgb.gr
      subst hk
      clear hgb hnw hrow hins
      go_wp2
      go_ret
      exact ⟨A, cc, rows, rfl, HI.out.1, HI.out.2, HS.out, HG.out⟩
    | false =>
      have hk : k < full.length := by
        rcases Nat.lt_or_ge k full.length with h | h
        · exact h
        · exfalso
          have h2 := hgb.st
          unfold Stand at h2
          rw [HBD.out, if_neg (by simp), List.drop_eq_nil_of_le (by unfold opsOf; rw [List.length_map]; exact h)] at h2
          unfold shapeGo at h2
          cases h2
      obtain ⟨i, hi⟩ : ∃ i, full[k]? = some i := ⟨_, List.getElem?_eq_getElem hk⟩
      obtain ⟨hok, hri⟩ := HALL.out i (List.mem_of_getElem? hi)
      have hstep := hgb.st.step hi
      obtain ⟨st', en', ha⟩ : ∃ st' en', addZ st i.op = some (st', en') := by
        cases ha : addZ st i.op with
        | none => rw [ha, HBD.out] at hstep; cases hstep
        | some q => exact ⟨q.1, q.2, rfl⟩
      rw [ha] at hstep
      have hdr : l.drop (k0 + (bodyL (full.take k)).length) = putL i ++ (bodyL (full.drop (k + 1)) ++ r) := by
        refine drop_past (a := bodyL (full.take k)) ?_
        rw [HD.out, bodyL_at hi]
        simp only [List.append_assoc]
      have HAT := Lib.hid (at_any hgb.sc)
      have HGET := Lib.hid (get_ok hok hri hgb.sc hgb.tb hdr)
      have HK2 : Hid (k0 + (bodyL (full.take k)).length + (putL i).length = k0 + (bodyL (full.take (k + 1))).length) := by
        show _ = _
        rw [bodyL_snoc hi, List.length_append]
        omega
      obtain ⟨pl, hpl⟩ : ∃ pl, pl = k0 + (bodyL (full.take k)).length := ⟨_, rfl⟩
      rw [← hpl] at HAT HGET HK2 hgb
      have hkk : decide ((k : Int) < 20000) = true := decide_eq_true (by omega)
      have HGB := Lib.hid hgb
      have HNW := Lib.hid hnw
      have HRW := Lib.hid hrow
      have HI := Lib.hid hi
      have HST := Lib.hid hstep
      have HA := Lib.hid ha
      have hl2 := addZ_len ha
      have hsl := hgb.sl
      have hzz := hgb.hp
      clear hgb hnw hrow hins hi hstep ha hdr hpl
      go_wp2_with (first
        | (at_builtin; (refine rowsI_new rfl _ _ rfl w.heap.size _ rows rfl HG3.out.row w2.heap.size (i, B2, c2) rfl (Whole.made w2 _ _) (by omega) (by have := HG2.out.size; rw [size_box]; omega) ?_; intro v3 w3 hr3 hg3; have HR3 := Lib.hid hr3; have HGR3 := Lib.hid hg3; clear hr3 hg3))
        | (go_at_call 34; go_must ((with_reducible refine HAT.out.mono ?_); rintro e w' ⟨rfl, rfl⟩))
        | (go_at_call 70; go_must ((with_reducible refine HGET.out.mono ?_); intro e w1 hq; obtain ⟨B2, c2, rfl, hla, hfar, hs, hg, hty⟩ := hq; have HG1 := Lib.hid ((HGB.out.got hs hg).below (below_box w1 (.cells (insC i B2 c2) 25))); have HN1 := Lib.hid ((HNW.out.grown hg (by simp only [ne_eq, Option.some.injEq]; omega)).alloc (.cells (insC i B2 c2) 25)); have HR1 := Lib.hid (Row.alloc (World.ownsRow.kept HRW.out hg (.inr (fun e => by have := World.ownsRow.lt HRW.out _ e; omega)) : Row w1 w.heap.size vo st) (.cells (insC i B2 c2) 25)); have HTY := Lib.hid (hty.below (below_box w1 (.cells (insC i B2 c2) 25))); have HF := Lib.hid hfar; have hzw := hg.size; clear hla hfar hs hg hty))
        | (go_at_call 74; go_must ((with_reducible refine (add_ok HG1.out.tb.tabs HN1.out HR1.out HG1.out.size (by omega) HA.out).mono ?_); rintro e w2 ⟨rfl, hm⟩; have HG2 := Lib.hid (HG1.out.moved hm HR1.out HN1.out (Nat.le_refl _)); have hbx := hm.whole HR1.out HN1.out (Whole.made w1 25 (insC i B2 c2)) (by decide) (by decide); have b0 := hbx.cell 0; have b1 := hbx.cell 1; have b2 := hbx.cell 2; have b3 := hbx.cell 3; simp only [List.getElem?_toArray, List.getElem?_cons_zero, List.getElem?_cons_succ] at b0 b1 b2 b3; have HG3 := Lib.hid (HG2.out.below (below_box w2 (.cells (insC i B2 c2) 25))); have HM := Lib.hid hm; clear hm hbx))
        | (go_at_call 80; go_must ((with_reducible refine (unlessT _ _ _).mono ?_); rintro e w' ⟨rfl, rfl⟩)))
      go_roundw
      case rel =>
        have hlab : LabT (w2.alloc (.cells (insC i B2 c2) 25)) B2 i.l := (HTY.out.moved HM.out HR1.out HN1.out).below (below_box w2 _)
        have happ := HG3.out.app (x := (i, B2, c2)) (en' := en') (st' := st') HI.out ⟨hlab, fun a ha => Nat.le_trans (by omega) (HF.out a ha)⟩ HR3.out HGR3.out (by omega) HST.out
        rw [HK2.out] at happ
        obtain ⟨v4, hn4, hr4⟩ := HM.out.nest
        have hn5 := (hn4.alloc (.cells (insC i B2 c2) 25)).grown HGR3.out (own_whole HG3.out.row (hn4.alloc (.cells (insC i B2 c2) 25)) (by decide))
        have hr5 : Row w3 w.heap.size v4 st' := World.ownsRow.kept (hr4.alloc (.cells (insC i B2 c2) 25)) HGR3.out (own_own (hr4.alloc (.cells (insC i B2 c2) 25)) HG3.out.row (by decide))
        exact ⟨k + 1, rows ++ [(i, B2, c2)], st', en', happ, ⟨v4, hn5, hr5⟩, hn5.lt⟩
      case measure =>
        have h3 : lenOf v3 = k + 1 := by
          rcases HR3.out.2 with ⟨_, h0⟩ | ⟨g, cap, cur, e, _⟩
          · rw [List.length_append] at h0; simp at h0
          · rw [e]; show (rows ++ [(i, B2, c2)]).length = _; rw [List.length_append, hlen]; rfl
        rw [h3]
        show _ < full.length - k
        omega
end Go.Proofs.YtebgmfjgapmpfaaDoor
