/- The reference's Rows. -/
import Derived.Test.YtfimjjeabbbciaaDoorRefOf
import Derived.OwnWalk
import Derived.Laws.AppendOwn
namespace Go.Proofs.YtfimjjeabbbciaaDoor
open Go.RowKit

theorem infoRow : (Tryd.prog.info? 24).map (fun i => (i.zero, i.size, i.bytes)) = some (some (.agg #[.int .i64 0, .string ⟨#[]⟩, .int .i64 0, .string ⟨#[]⟩, .string ⟨#[]⟩, .bool false]), 6, 72) := by kernel_rfl
/-- Rows in a row of the call's own. -/
def RowsL (w : World) (base : Nat) (v : Value) (l : List RowR) : Prop := w.ownsRow base 24 6 v l.length (l.flatMap rowCells)
theorem RowsL.nil (w : World) (base : Nat) : RowsL w base (.slice none 0 0) [] := World.ownsRow_nil w base _ 6
theorem RowsL.later {w w' : World} {base : Nat} {v : Value} {l : List RowR} (h : RowsL w base v l) (hb : Below w.heap.size w w') : RowsL w' base v l :=
  World.ownsRow.kept h (gb_of_below none hb) (by cases v.ownBlock with
    | none => exact .inl rfl
    | some k => exact .inr (by simp))
theorem RowsL.alloc {w : World} {base : Nat} {v : Value} {l : List RowR} (h : RowsL w base v l) (o : Obj) : RowsL (w.alloc o) base v l := World.ownsRow.alloc h o
theorem flat_len (l : List RowR) : (l.flatMap rowCells).length = l.length * 6 := by
  induction l with
  | nil => rfl
  | cons x r ih => rw [List.flatMap_cons, List.length_append, ih, List.length_cons]; show 6 + _ = _; omega
/-- What a row that is not empty reads as. -/
theorem RowsL.cells {w : World} {base : Nat} {v : Value} {l : List RowR} (h : RowsL w base v l) (hl : 0 < l.length) :
    ∃ g cap, v = .slice (some ⟨g, 0, none⟩) l.length cap ∧ ∀ i, i < l.length → RowCells w g i (l.getD i row0) := by
  obtain ⟨_, h2⟩ := h
  rcases h2 with ⟨_, h0⟩ | ⟨g, cap, cur, rfl, _, hh, _, _, _, ht⟩
  · omega
  · refine ⟨g, cap, rfl, fun i hi => ?_⟩
    obtain ⟨a0, a1, a2, a3, a4, a5⟩ := rows_get l i hi
    have key : ∀ k (u : Value), k < l.length * 6 → (rowsArr l)[k]? = some u → w.cell? ⟨g, k, none⟩ = some u := by
      intro k u hk hu
      rw [cell_of_row w g k cur _ _ hh]
      unfold rowsArr at hu
      rw [List.getElem?_toArray, ← ht, List.getElem?_take, if_pos hk] at hu
      simpa using hu
    exact ⟨key _ _ (by omega) a0, key _ _ (by omega) a1, key _ _ (by omega) a2, key _ _ (by omega) a3, key _ _ (by omega) a4, key _ _ (by omega) a5⟩
section
variable {w : World} {ops : Array Oper} {rest : List Oper} {o : Oper} {a : Act} {Q : Exit → Act → World → Prop}
/-- append of a new block of one row. -/
theorem rows_new (hgd : o.guard = none) (s x : Operand)
    (ho : o.op = .call { callee := .builtin .append, args := #[s, x], argTypes := #[36, 36] })
    (B : Nat) (v : Value) (l : List RowR) (hs : a.eval s = v) (hr : RowsL w B v l) (g : Nat) (r : RowR) (hx : a.eval x = .slice (some ⟨g, 0, none⟩) 1 1)
    (hg : Whole w g 24 (rowCells r).toArray) (hb : l.length ≤ 1000) (hB : B ≤ w.heap.size)
    (h : ∀ v' w', RowsL w' B v' (l ++ [r]) → Below B w w' → wpList Tryd.prog ops Q rest (a.put o.dst v') w') : wpList Tryd.prog ops Q (o :: rest) a w := by
  obtain ⟨i0, hi0, hz0, hz1, hz2⟩ := info_parts infoRow
  refine wpList_append_own _ hgd s x _ ho B 24 i0 _ 6 72 Tryd.underlying36 hi0 hz0 hz1 hz2 rfl (by omega) v _ _ hs hr ⟨g, 0, none⟩ 1 1 (rowCells r) hx rfl ?_ ?_ (by unfold maxLen; omega) (by omega) hB (fun v' w' h2 h3 _ => h v' w' ?_ ?_)
  · intro j u hu
    rw [Go.WideShapes.add_plain, Nat.zero_add, hg.cell]
    simpa using hu
  · intro u hu
    unfold rowCells at hu
    simp only [List.mem_cons, List.not_mem_nil, or_false] at hu
    rcases hu with rfl | rfl | rfl | rfl | rfl | rfl <;> rfl
  · unfold RowsL
    rw [List.length_append, List.flatMap_append]
    simpa using h2
  · exact Below.grown (Below.refl _ _) h3 hB (fun k hk => (World.ownsRow.lt hr k hk).1)
end

theorem made_two (w : World) (o : Obj) (t : TypeId) (cs : Array Value) : Whole ((w.alloc o).alloc (.cells cs t)) (w.heap.size + 1) t cs := by
  have := Whole.made (w.alloc o) t cs
  simpa using this
def rowsTo (k : Nat) : List RowR := (List.range k).filterMap refR
theorem rowsTo_none {k : Nat} (h : refR k = none) : rowsTo (k + 1) = rowsTo k := by
  unfold rowsTo
  rw [List.range_succ, List.filterMap_append, List.filterMap_cons_none h]
  simp
theorem rowsTo_some {k : Nat} {r : RowR} (h : refR k = some r) : rowsTo (k + 1) = rowsTo k ++ [r] := by
  unfold rowsTo
  rw [List.range_succ, List.filterMap_append, List.filterMap_cons_some h]
  rfl
theorem rowsTo_len (k : Nat) : (rowsTo k).length ≤ k := by
  unfold rowsTo
  exact Nat.le_trans (List.length_filterMap_le _ _) (by simp)
def RowsPost (w : World) (e : Ending) (w' : World) : Prop := ∃ v, e = .returned v ∧ RowsL w' w.heap.size v (rowsTo 256) ∧ Below w.heap.size w w'
set_option maxRecDepth 100000 in
theorem rows_any (w : World) : Calls Tryd.prog 13 #[] w (RowsPost w) := by
  go_enter Tryd.func13, Tryd.ntmps13
  go_wp2
  go_loopw [1, 2] (fun v i wr => ∃ k : Nat, k ≤ 256 ∧ i = .int .i64 k ∧ RowsL wr w.heap.size v (rowsTo k) ∧ Below w.heap.size w wr) (fun _ i _ => 256 - (intOf i).toNat)
  case atStart => exact ⟨0, by omega, rfl, RowsL.nil _ _, Below.refl _ _⟩
  case round =>
    obtain ⟨k, hk, rfl, hr, hb⟩ := hrel
    have HR := Lib.hid hr
    have HB := Lib.hid hb
    have hz := hb.size
    clear hr hb
    by_cases hlt : k < 256
    · cases h : refR k with
      | none =>
        have HQ := Lib.hid (fun W => by have := ref_any k W (by omega); rw [h] at this; exact this)
        have HN := Lib.hid (rowsTo_none h)
        clear h
        go_wp2_with (go_at_call 7; go_must (refine (HQ.out _).mono ?_; rintro e w2 ⟨rfl, hb2⟩; have HB2 := Lib.hid hb2; have hz2 := hb2.size; clear hb2))
        go_roundw
        case rel => exact ⟨k + 1, by omega, by go_num, by rw [HN.out]; exact (HR.out.later HB2.out).alloc _, (HB.out.trans (HB2.out.mono hz)).alloc (by omega) _⟩
        case measure => simp [intOf]; omega
      | some r =>
        have HQ := Lib.hid (fun W => by have := ref_any k W (by omega); rw [h] at this; exact this)
        have HN := Lib.hid (rowsTo_some h)
        have hlen : (rowsTo k).length ≤ 1000 := by have := rowsTo_len k; omega
        clear h
        go_wp2_with (first | (go_at_call 7; go_must (refine (HQ.out _).mono ?_; rintro e w2 ⟨rfl, hb2⟩; have HB2 := Lib.hid hb2; have hz2 := hb2.size; clear hb2)) | (refine rows_new rfl (.tmp 15) (.tmp 17) rfl w.heap.size u1 (rowsTo k) rfl (((HR.out.later HB2.out).alloc _).alloc _) (w2.heap.size + 1) r rfl (made_two _ _ _ _) hlen (by simp; omega) ?_; intro v' w3 hr3 hb3; rw [← HN.out] at hr3; have HR3 := Lib.hid hr3; have HB3 := Lib.hid hb3; clear hr3 hb3))
        go_roundw
        case rel => exact ⟨k + 1, by omega, by go_num, HR3.out, (((HB.out.trans (HB2.out.mono hz)).alloc (by omega) _).alloc (by simp; omega) _).trans HB3.out⟩
        case measure => simp [intOf]; omega
    · obtain rfl : k = 256 := by omega
      go_wp2
      go_ret
      exact ⟨_, rfl, HR.out, HB.out⟩
end Go.Proofs.YtfimjjeabbbciaaDoor

