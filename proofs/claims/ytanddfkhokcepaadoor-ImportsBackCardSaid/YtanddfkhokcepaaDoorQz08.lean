/- Sections that lie somewhere: Join. -/
import Derived.Test.YtanddfkhokcepaaDoorQz07
import Derived.Deep.CutBlock
namespace Go.Proofs.YtanddfkhokcepaaDoor
open Go.RowKit
set_option linter.unusedVariables false
set_option maxRecDepth 100000

/-- The slice at A reads as these sections. -/
def Secs (w : World) (A : Option Addr) (l : List Sct) : Prop :=
  ∀ j x, l[j]? = some x → ∃ b off B c, A = some ⟨b, off, none⟩ ∧ b < w.heap.size ∧ (w.cell? ⟨b, off + j * 4, none⟩ = some (.int .u8 x.id.toNat) ∧ w.cell? ⟨b, off + j * 4 + 1, none⟩ = some (.string (S x.name)) ∧
    w.cell? ⟨b, off + j * 4 + 2, none⟩ = some (.slice B x.body.length c) ∧ w.cell? ⟨b, off + j * 4 + 3, none⟩ = some (.int .i64 x.off)) ∧ Pc B c x.body w
theorem Secs.below {w w' : World} {A : Option Addr} {l : List Sct} (h : Secs w A l) (hb : Below w.heap.size w w') : Secs w' A l := fun j x hx => by
  obtain ⟨b, off, B, c, e, h1, ⟨k0, k1, k2, k3⟩, hp⟩ := h j x hx
  exact ⟨b, off, B, c, e, Nat.lt_of_lt_of_le h1 hb.size, ⟨(hb.cell (p := ⟨b, _, none⟩) h1).trans k0, (hb.cell (p := ⟨b, _, none⟩) h1).trans k1, (hb.cell (p := ⟨b, _, none⟩) h1).trans k2, (hb.cell (p := ⟨b, _, none⟩) h1).trans k3⟩, hp.below hb⟩
theorem flatS_get : ∀ (l : List SSlot) (j : Nat) (x : SSlot) (u : Nat), l[j]? = some x → u < 4 → (l.flatMap rowS)[j * 4 + u]? = (rowS x)[u]?
  | [], j, x, u, h, _ => by cases h
  | y :: l, 0, x, u, h, hu => by
    injection h with h
    subst h
    rw [List.flatMap_cons, Nat.zero_mul, Nat.zero_add, List.getElem?_append_left (by show u < 4; exact hu)]
  | y :: l, j + 1, x, u, h, hu => by
    rw [List.flatMap_cons, List.getElem?_append_right (by show 4 ≤ _; omega)]
    have e : (j + 1) * 4 + u - (rowS y).length = j * 4 + u := by show (j + 1) * 4 + u - 4 = _; omega
    rw [e]
    exact flatS_get l j x u h hu
/-- What a row of sections reads as. -/
theorem RowS.secs {W : World} {base : Nat} {A : Option Addr} {n c : Nat} {rows : List SSlot} (h : RowS W base (.slice A n c) rows) (hb : AllB W base rows) : Secs W A (rows.map (·.1)) := fun j i hi => by
  obtain ⟨x, hx, rfl⟩ : ∃ x, rows[j]? = some x ∧ x.1 = i := by
    rw [List.getElem?_map] at hi
    cases hx : rows[j]? with
    | none => rw [hx] at hi; cases hi
    | some x => rw [hx] at hi; injection hi with hi; exact ⟨x, rfl, hi⟩
  have hj := (List.getElem?_eq_some_iff.1 hx).1
  rcases h.2 with ⟨_, h0⟩ | ⟨g, cap, cur, e, _, hg, _, _, _, ht⟩
  · omega
  · injection e with e1 e2 e3
    have key : ∀ u, u < 4 → W.cell? ⟨g, 0 + j * 4 + u, none⟩ = (rowS x)[u]? := fun u hu => by
      rw [cell_of_row W g (0 + j * 4 + u) cur _ _ hg, ← flatS_get rows j x u hx hu, ← ht, List.getElem?_take, if_pos (by omega)]
      simp
    obtain ⟨A2, c2, e4, hp⟩ := (hb x (List.mem_of_getElem? hx)).pc
    injection e4 with e5 e6 e7
    subst e5; subst e7
    exact ⟨g, 0, x.2.1, x.2.2, e1, (Array.getElem?_eq_some_iff.1 hg).1, ⟨key 0 (by omega), key 1 (by omega), key 2 (by omega), key 3 (by omega)⟩, hp⟩

/-- Bytes of the call's own, or a full block of them that may be marked. -/
def JRow (w : World) (base : Nat) (v : Value) (xs : List UInt8) : Prop :=
  Row w base v xs ∨ ∃ g, v = .slice (some ⟨g, 0, none⟩) xs.length xs.length ∧ base ≤ g ∧ g < w.heap.size ∧ Lies w w.heap.size (some ⟨g, 0, none⟩) (cells (nums xs))
theorem JRow.later {w w' : World} {base : Nat} {v : Value} {xs : List UInt8} (h : JRow w base v xs) (hb : Below w.heap.size w w') : JRow w' base v xs := by
  rcases h with h | ⟨g, e, h1, h2, h3⟩
  · exact .inl (h.later hb)
  · exact .inr ⟨g, e, h1, Nat.lt_of_lt_of_le h2 hb.size, (h3.below hb (Nat.le_refl _)).more hb.size⟩
theorem JRow.pc {w : World} {base : Nat} {v : Value} {xs : List UInt8} (h : JRow w base v xs) : ∃ A c, v = .slice A xs.length c ∧ Pc A c xs w := by
  rcases h with h | ⟨g, e, h1, h2, h3⟩
  · exact h.pc
  · exact ⟨_, _, e, h3, fun e => by cases e⟩
section
variable {w : World} {ops : Array Oper} {rest : List Oper} {o : Oper} {a : Act} {Q : Exit → Act → World → Prop}
/-- append onto a full block. -/
theorem row_full (hgd : o.guard = none) (s x : Operand)
    (ho : o.op = .call { callee := .builtin .append, args := #[s, x], argTypes := #[25, 25] })
    (g : Nat) (xs : List UInt8) (hs : a.eval s = .slice (some ⟨g, 0, none⟩) xs.length xs.length) (hr : Lies w w.heap.size (some ⟨g, 0, none⟩) (cells (nums xs)))
    (A : Option Addr) (m c B' : Nat) (news : List UInt8) (hx : a.eval x = .slice A m c) (hl : news.length = m) (hn : Lies w B' A (cells (nums news)))
    (hm : 0 < m) (hb : xs.length + news.length ≤ 1000000)
    (h : ∀ v' w', Row w' w.heap.size v' (xs ++ news) → Below w.heap.size w w' → wpList Tryd.prog ops Q rest (a.put o.dst v') w') : wpList Tryd.prog ops Q (o :: rest) a w := by
  obtain ⟨i0, hi0, hz0, hz1, hz2⟩ := info_parts infoB
  have hcl : (cells (nums news)).length = m := by rw [cells_length, nums_length]; exact hl
  have hcx : (cells (nums xs)).length = xs.length := by rw [cells_length, nums_length]
  obtain ⟨b, off, rfl, _⟩ : ∃ b off, A = some ⟨b, off, none⟩ ∧ True := by
    obtain ⟨b, off, e, _⟩ := hn.at_ (i := 0) (by omega)
    exact ⟨b, off, e, trivial⟩
  have hnew : ∀ j v, (cells (nums news))[j]? = some v → w.cell? ((⟨b, off, none⟩ : Addr).add j) = some v := fun j v hv => by
    obtain ⟨b2, o2, e, _, hc⟩ := hn j v hv
    simp only [Option.some.injEq, Addr.mk.injEq] at e
    obtain ⟨rfl, rfl, _⟩ := e
    rw [Go.WideShapes.add_plain]; exact hc
  have hold : ∀ j v, (cells (nums xs))[j]? = some v → w.cell? ((⟨g, 0, none⟩ : Addr).add j) = some v := fun j v hv => by
    obtain ⟨b2, o2, e, _, hc⟩ := hr j v hv
    simp only [Option.some.injEq, Addr.mk.injEq] at e
    obtain ⟨rfl, rfl, _⟩ := e
    rw [Go.WideShapes.add_plain]; exact hc
  have hrun := run_append_grow (P := Tryd.prog) w 25 o.type 5 i0 _ Tryd.underlying25 hi0 hz0 ⟨g, 0, none⟩ xs.length xs.length (cells (nums xs)) (by rw [hcx, hz1]; omega) hold ⟨b, off, none⟩ m c (cells (nums news)) (by rw [hcl, hz1]; omega) hnew (by omega) (by omega) (growslice_fits_wide (by omega) (by rw [hz2]; omega))
  refine Lib.wpList_append_run _ hgd s x _ _ ho _ _ hs hx _ _ hrun (h _ _ ?_ ((Below.refl _ _).drew.alloc (Nat.le_refl _) _))
  have hG := grownCap_ge w (xs.length + m) xs.length 5
  have hM : grownCap w (xs.length + m) xs.length 5 ≤ maxLen := grownCap_le_maxLen w _ _ _ (by unfold maxLen; omega)
  refine ⟨by rw [cells_length, nums_length]; omega, .inr ⟨w.heap.size, _, _, ?_, Nat.le_refl _, heap_alloc_new w.drew _, ?_, hM, ?_, ?_⟩⟩
  · rw [List.length_append, hl]
  · rw [List.length_append, hl]; exact hG
  · have e1 : (Value.int .u8 0).cells.size = 1 := rfl
    simp only [Array.size_append, size_zeroCells, List.size_toArray, hcx, hcl, e1]
    omega
  · have e : cells (nums (xs ++ news)) = cells (nums xs) ++ cells (nums news) := by rw [nums_append]; unfold cells; rw [List.map_append]
    rw [e, List.length_append, hl]
    simp only [Array.toList_append, List.toList_toArray]
    rw [List.take_append_of_le_length (by simp only [List.length_append, hcx, hcl]; omega), List.take_of_length_le (by simp only [List.length_append, hcx, hcl]; omega)]
/-- append onto either. -/
theorem jrow_app (hgd : o.guard = none) (s x : Operand)
    (ho : o.op = .call { callee := .builtin .append, args := #[s, x], argTypes := #[25, 25] })
    (B : Nat) (v : Value) (xs : List UInt8) (hs : a.eval s = v) (hr : JRow w B v xs)
    (A : Option Addr) (m c : Nat) (news : List UInt8) (hx : a.eval x = .slice A m c) (hl : news.length = m) (hn : Pc A c news w)
    (hm : 0 < m) (hb : xs.length + news.length ≤ 1000000) (hB : B ≤ w.heap.size)
    (h : ∀ v' w', Row w' B v' (xs ++ news) → Below B w w' → wpList Tryd.prog ops Q rest (a.put o.dst v') w') : wpList Tryd.prog ops Q (o :: rest) a w := by
  rcases hr with hr | ⟨g, rfl, h1, h2, h3⟩
  · exact row_lies hgd s x ho B v xs hs hr A m c _ news hx hl hn.lies hm hb hB h
  · exact row_full hgd s x ho g xs hs h3 A m c _ news hx hl hn.lies hm hb fun v' w' hr2 hb2 => h v' w' (hr2.mono hB) (hb2.mono hB)
end
/-- Many sections' bytes. -/
noncomputable def putsL (l : List Sct) : List UInt8 := l.flatMap sputL
noncomputable def joinL (l : List Sct) : List UInt8 := headL ++ putsL l
theorem putsL_snoc {l : List Sct} {k : Nat} {x : Sct} (h : l[k]? = some x) : putsL (l.take (k + 1)) = putsL (l.take k) ++ sputL x := by
  unfold putsL
  obtain ⟨h1, h2⟩ := List.getElem?_eq_some_iff.1 h
  rw [List.take_add_one, h, List.flatMap_append]
  simp
/-- The sections are short. -/
def Short (l : List Sct) : Prop := l.length ≤ 30 ∧ ∀ x ∈ l, x.name.length ≤ 300 ∧ x.body.length ≤ 100
theorem putsL_len : ∀ {l : List Sct}, (∀ x ∈ l, x.name.length ≤ 300 ∧ x.body.length ≤ 100) → (putsL l).length ≤ l.length * 621
  | [], _ => by simp [putsL]
  | x :: r, h => by
    have h1 := putsL_len (l := r) (fun y hy => h y (List.mem_cons_of_mem _ hy))
    have h2 := h x (by simp)
    have h3 := (sputL_len (n := 300) h2.1 (by omega) (by omega)).2
    unfold putsL at h1 ⊢
    rw [List.flatMap_cons, List.length_append, List.length_cons]
    omega
theorem joinL_len {l : List Sct} (h : Short l) : (joinL l).length ≤ 18638 := by
  have := putsL_len h.2
  have h1 := h.1
  unfold joinL
  rw [List.length_append]
  have : headL.length = 8 := rfl
  omega
theorem Short.take {l : List Sct} (h : Short l) (k : Nat) : Short (l.take k) := ⟨by rw [List.length_take]; have := h.1; omega, fun x hx => h.2 x (List.mem_of_mem_take hx)⟩
end Go.Proofs.YtanddfkhokcepaaDoor

/- creelref09.Put, Head. -/
namespace Go.Proofs.YtanddfkhokcepaaDoor
open Go.RowKit
set_option linter.unusedVariables false
set_option maxRecDepth 100000

def rsecV (x : Sct) : Value := .agg #[.int .i64 x.id.toNat, .string (S x.name), .string (S x.body), .int .i64 0]
def rsecK (x : Sct) : Array Value := #[.int .i64 x.id.toNat, .string (S x.name), .string (S x.body), .int .i64 0]
/-- A string handed back. -/
def Strs (l : List UInt8) (w : World) (e : Ending) (w' : World) : Prop := e = .returned (.string (S l)) ∧ Below w.heap.size w w'
/-- string(b), behind the walk's own simplifying. -/
theorem upon_str {o : Oper} {a : Act} {K : Act → World → Prop} {Q : Exit → Act → World → Prop} {W : World} {A : Option Addr} {c : Nat} {l : List UInt8} (hp : Pc A c l W) (h : K (a.put o.dst (.string (S l))) W) :
    Oper.upon Tryd.prog o a K Q (((convert 25 9 (.slice A l.length c)).run Tryd.prog W).andThen fun v w' => Result.ok (Next.value v) w') := by
  rw [str_any hp.lies c 9 Tryd.underlying9]
  exact h
theorem cat3 (a b c : List UInt8) : S a ++ S b ++ S c = S (a ++ b ++ c) := by rw [S_append, S_append]
set_option maxHeartbeats 1600000 in
theorem refPut_other (x : Sct) (w : World) (hn : x.name.length ≤ 100000) (hb : x.body.length ≤ 100000) (h0 : ¬ x.id.toNat = 0) :
    Calls Tryd.prog 12 #[rsecV x] w (Strs (sputL x) w) := by
  have hW := Whole.made w 29 (rsecK x)
  have hb0 := below_box w (.cells (rsecK x) 29)
  have k0 := hW.cell 0
  simp only [rsecK, List.getElem?_toArray, List.getElem?_cons_zero, List.getElem?_cons_succ] at k0
  have hsl : (sputL x).length ≤ 400000 := by have := (sputL_len hn hb (by omega)).2; omega
  have e0 : ((x.id.toNat : Int) == 0) = false := by simp; omega
  have hin : innerL x = x.body := by unfold innerL; rw [if_neg h0]
  obtain ⟨L, hL⟩ : ∃ L, L = x.body := ⟨_, rfl⟩
  have hsp : sputL x = [x.id] ++ lebL L.length ++ L := by unfold sputL; rw [hin, hL]
  have hs3 : ([x.id] : List UInt8).length + (lebL (L.length : Int)).length + L.length ≤ 400000 := by rw [hsp, List.length_append, List.length_append] at hsl; exact hsl
  have hx := x.id.toNat_lt
  have wu : IntKind.u8.wrap (x.id.toNat : Int) = x.id.toNat := by simp [IntKind.wrap, IntKind.bits, IntKind.signed]; omega
  have HSP := Lib.hid hsp
  have HS3 := Lib.hid hs3
  have sL := S_size L
  have hc := fun w => count_any (L.length : Int) w (by omega) (by omega)
  obtain ⟨y, hy⟩ : ∃ y, y = lebL (L.length : Int) := ⟨_, rfl⟩
  rw [← hy] at hc HSP HS3
  have HC := Lib.hid hc
  have sy := S_size y
  have s1 := S_size [x.id]
  have hyl : y.length ≤ 400000 := by have := HS3.out; omega
  have hll : L.length ≤ 400000 := by have := HS3.out; omega
  have q1 : ¬ 9223372036854775807 < (S [x.id]).size + (S y).size := by rw [s1, sy, List.length_singleton]; omega
  have q2 : ¬ 9223372036854775807 < (S [x.id]).size + (S y).size + L.length := by rw [s1, sy, List.length_singleton]; omega
  unfold rsecV
  unfold rsecK at hb0
  rw [← hL]
  rw [← hL] at k0 hb0
  clear h0 hin hsp hsl hs3 hW hL hy s1 sy hc hyl hll
  go_enter Tryd.func12, Tryd.ntmps12
  go_upto_region 4 with fail
  generalize w.alloc (.cells #[.int .i64 x.id.toNat, .string (S x.name), .string (S L), .int .i64 0] 29) = W0 at *
  have HBE := Lib.hid hb0
  clear hb0
  refine wp_region_noPanic ?_
  refine wp_region_held_drew (S := fun W => W.cell? ⟨w.heap.size, 0, none⟩ = some (.int .i64 x.id.toNat) ∧ Below W0.heap.size W0 W) (by kernel_rfl) ⟨k0, (Below.refl _ _).drew⟩ (fun hHeld => ?_)
  (refine heldTake (i := 0) (oi := { dst := some 19, op := Op.fieldAddr 29 (Operand.tmp 1) 0, type := 0, pos := "ref.go:82", after := #[], guard := none }) (v := ?_) rfl (by kernel_rfl) (by kernel_rfl) (by kernel_rfl) (by assumption) ?_ ?_; rotate_left; focus (refine .inl ⟨by kernel_rfl, ?_⟩; intro w hSw; (try dsimp only at hSw); go_simp; (try with_reducible rfl)); (try simp only [Act.put, List.setIfInBounds_toArray, List.set_cons_zero, List.set_cons_succ]))
  (refine heldTake (i := 1) (oi := { dst := some 20, op := Op.load 3 (Operand.tmp 19), type := 3, pos := "ref.go:82", after := #[{ on := 0, ground := Ground.data }], guard := none }) (v := ?_) rfl (by kernel_rfl) (by kernel_rfl) (by kernel_rfl) (by assumption) ?_ ?_; rotate_left; focus (refine .inl ⟨by kernel_rfl, ?_⟩; intro w hSw; (try dsimp only at hSw); go_simp; (try with_reducible rfl)); (try simp only [Act.put, List.setIfInBounds_toArray, List.set_cons_zero, List.set_cons_succ]))
  (refine heldTake (i := 2) (oi := { dst := some 21, op := Op.convert 3 5 (Operand.tmp 20), type := 5, pos := "ref.go:82", after := #[{ on := 1, ground := Ground.data }], guard := none }) (v := ?_) rfl (by kernel_rfl) (by kernel_rfl) (by kernel_rfl) (by assumption) ?_ ?_; rotate_left; focus (refine .inl ⟨by kernel_rfl, ?_⟩; intro w hSw; (try dsimp only at hSw); go_simp; (try with_reducible rfl)); (try simp only [Act.put, List.setIfInBounds_toArray, List.set_cons_zero, List.set_cons_succ]))
  (refine heldTake (i := 5) (oi := { dst := some 24, op := Op.move (Operand.tmp 3), type := 9, pos := "ref.go:82", after := #[], guard := none }) (v := ?_) rfl (by kernel_rfl) (by kernel_rfl) (by kernel_rfl) (by assumption) ?_ ?_; rotate_left; focus (refine .inl ⟨by kernel_rfl, ?_⟩; intro w hSw; (try dsimp only at hSw); go_simp; (try with_reducible rfl)); (try simp only [Act.put, List.setIfInBounds_toArray, List.set_cons_zero, List.set_cons_succ]))
  (refine heldTake (i := 6) (oi := { dst := some 25, op := Op.call { callee := Callee.builtin Builtin.len, args := #[Operand.tmp 24], argTypes := #[9] }, type := 3, pos := "ref.go:82", after := #[{ on := 5, ground := Ground.data }], guard := none }) (v := ?_) rfl (by kernel_rfl) (by kernel_rfl) (by kernel_rfl) (by assumption) ?_ ?_; rotate_left; focus (refine .inl ⟨by kernel_rfl, ?_⟩; intro w hSw; (try dsimp only at hSw); go_simp; (try with_reducible rfl)); (try simp only [Act.put, List.setIfInBounds_toArray, List.set_cons_zero, List.set_cons_succ]))
  (refine heldTake (i := 9) (oi := { dst := some 28, op := Op.move (Operand.tmp 3), type := 9, pos := "ref.go:82", after := #[], guard := none }) (v := ?_) rfl (by kernel_rfl) (by kernel_rfl) (by kernel_rfl) (by assumption) ?_ ?_; rotate_left; focus (refine .inl ⟨by kernel_rfl, ?_⟩; intro w hSw; (try dsimp only at hSw); go_simp; (try with_reducible rfl)); (try simp only [Act.put, List.setIfInBounds_toArray, List.set_cons_zero, List.set_cons_succ]))
  refine wpAnyH_ready (rs := [3, 7]) (by kernel_rfl) (by simp) ?_
  refine (AllReadyH.cons (o := { dst := some 22, op := Op.buildSlice 25 1 #[(0, Operand.tmp 21)], type := 25, pos := "ref.go:82", after := #[{ on := 2, ground := Ground.data }], guard := none }) rfl (fun K hK => ?_) (AllReadyH.cons (o := { dst := some 26, op := Op.call { callee := Callee.value (Operand.func 60), args := #[Operand.tmp 25], argTypes := #[3] }, type := 9, pos := "ref.go:82", after := #[{ on := 6, ground := Ground.data }], guard := none }) rfl (fun K hK => ?_) AllReadyH.nil))
  · refine step_build1 rfl _ rfl x.id rfl ?_; intro g3 wa3 hg3 hb3 hp3; have HB3 := Lib.hid hb3; have HP3 := Lib.hid hp3; clear hb3 hp3
    refine hK.out _ _ (hold1 hHeld HB3.out) (fun hHeld3 => ?_)
    clear hK K hHeld
    (try simp only [Act.put, List.setIfInBounds_toArray, List.set_cons_zero, List.set_cons_succ])
    refine wpAnyH_ready (rs := [4, 7]) (by kernel_rfl) (by simp) ?_
    refine (AllReadyH.cons (o := { dst := some 23, op := Op.convert 25 9 (Operand.tmp 22), type := 9, pos := "ref.go:82", after := #[{ on := 3, ground := Ground.data }], guard := none }) rfl (fun K hK => ?_) (AllReadyH.cons (o := { dst := some 26, op := Op.call { callee := Callee.value (Operand.func 60), args := #[Operand.tmp 25], argTypes := #[3] }, type := 9, pos := "ref.go:82", after := #[{ on := 6, ground := Ground.data }], guard := none }) rfl (fun K hK => ?_) AllReadyH.nil))
    · go_simp; refine upon_str (l := [x.id]) (HP3.out) ?_; have HB4 := Lib.hid (Below.refl 0 w)
      refine hK.out _ _ hHeld3 (fun hHeld4 => ?_)
      clear hK K hHeld3
      (try simp only [Act.put, List.setIfInBounds_toArray, List.set_cons_zero, List.set_cons_succ])
      refine wpAnyH_ready (rs := [7]) (by kernel_rfl) (by simp) ?_
      refine (AllReadyH.cons (o := { dst := some 26, op := Op.call { callee := Callee.value (Operand.func 60), args := #[Operand.tmp 25], argTypes := #[3] }, type := 9, pos := "ref.go:82", after := #[{ on := 6, ground := Ground.data }], guard := none }) rfl (fun K hK => ?_) AllReadyH.nil)
      go_simp
      (go_at_call 60; (with_reducible refine (HC.out _).mono ?_); rintro e w7 ⟨rfl, hb7⟩; have HB7 := Lib.hid hb7; clear hb7)
      refine hK.out _ _ (hold1 hHeld4 HB7.out) (fun hHeld7 => ?_)
      clear hK K hHeld4
      (try simp only [Act.put, List.setIfInBounds_toArray, List.set_cons_zero, List.set_cons_succ])
      (refine heldTake (i := 8) (oi := { dst := some 27, op := Op.binOp BinOp.add 9 (Operand.tmp 23) (Operand.tmp 26) 9, type := 9, pos := "ref.go:82", after := #[{ on := 4, ground := Ground.data }, { on := 7, ground := Ground.data }], guard := none }) (v := ?_) rfl (by kernel_rfl) (by kernel_rfl) (by kernel_rfl) (by assumption) ?_ ?_; rotate_left; focus (refine .inl ⟨by kernel_rfl, ?_⟩; intro w hSw; (try dsimp only at hSw); go_simp; (try with_reducible rfl)); (try simp only [Act.put, List.setIfInBounds_toArray, List.set_cons_zero, List.set_cons_succ]))
      (refine heldTake (i := 10) (oi := { dst := some 29, op := Op.binOp BinOp.add 9 (Operand.tmp 27) (Operand.tmp 28) 9, type := 9, pos := "ref.go:82", after := #[{ on := 8, ground := Ground.data }, { on := 9, ground := Ground.data }], guard := none }) (v := ?_) rfl (by kernel_rfl) (by kernel_rfl) (by kernel_rfl) (by assumption) ?_ ?_; rotate_left; focus (refine .inl ⟨by kernel_rfl, ?_⟩; intro w hSw; (try dsimp only at hSw); go_simp; (try with_reducible rfl)); (try simp only [Act.put, List.setIfInBounds_toArray, List.set_cons_zero, List.set_cons_succ]))
      (refine heldTake (i := 11) (oi := { dst := some 2, op := Op.assign (Operand.tmp 29), type := 9, pos := "ref.go:82", after := #[{ on := 10, ground := Ground.data }, { on := 7, ground := Ground.chain }, { on := 0, ground := Ground.phase }, { on := 1, ground := Ground.phase }, { on := 2, ground := Ground.phase }, { on := 3, ground := Ground.phase }, { on := 4, ground := Ground.phase }, { on := 5, ground := Ground.phase }, { on := 6, ground := Ground.phase }, { on := 7, ground := Ground.phase }, { on := 8, ground := Ground.phase }, { on := 9, ground := Ground.phase }, { on := 10, ground := Ground.phase }], guard := none }) (v := ?_) rfl (by kernel_rfl) (by kernel_rfl) (by kernel_rfl) (by assumption) ?_ ?_; rotate_left; focus (refine .inl ⟨by kernel_rfl, ?_⟩; intro w hSw; (try dsimp only at hSw); go_simp; (try with_reducible rfl)); (try simp only [Act.put, List.setIfInBounds_toArray, List.set_cons_zero, List.set_cons_succ]))
      refine wpAnyH_done (by kernel_rfl) ?_ _
      refine NoPanic.normal ?_
      have hLast := hHeld7
      clear hHeld7
      go_wp2
      go_ret
      exact ⟨by rw [HSP.out, ← cat3]; rfl, HBE.out.trans (hLast.2.mono HBE.out.size)⟩
    · go_simp
      (go_at_call 60; (with_reducible refine (HC.out _).mono ?_); rintro e w7 ⟨rfl, hb7⟩; have HB7 := Lib.hid hb7; clear hb7)
      refine hK.out _ _ (hold1 hHeld3 HB7.out) (fun hHeld7 => ?_)
      clear hK K hHeld3
      (try simp only [Act.put, List.setIfInBounds_toArray, List.set_cons_zero, List.set_cons_succ])
      refine wpAnyH_ready (rs := [4]) (by kernel_rfl) (by simp) ?_
      refine (AllReadyH.cons (o := { dst := some 23, op := Op.convert 25 9 (Operand.tmp 22), type := 9, pos := "ref.go:82", after := #[{ on := 3, ground := Ground.data }], guard := none }) rfl (fun K hK => ?_) AllReadyH.nil)
      go_simp; refine upon_str (l := [x.id]) (((HP3.out).below HB7.out)) ?_; have HB4 := Lib.hid (Below.refl 0 w)
      refine hK.out _ _ hHeld7 (fun hHeld4 => ?_)
      clear hK K hHeld7
      (try simp only [Act.put, List.setIfInBounds_toArray, List.set_cons_zero, List.set_cons_succ])
      (refine heldTake (i := 8) (oi := { dst := some 27, op := Op.binOp BinOp.add 9 (Operand.tmp 23) (Operand.tmp 26) 9, type := 9, pos := "ref.go:82", after := #[{ on := 4, ground := Ground.data }, { on := 7, ground := Ground.data }], guard := none }) (v := ?_) rfl (by kernel_rfl) (by kernel_rfl) (by kernel_rfl) (by assumption) ?_ ?_; rotate_left; focus (refine .inl ⟨by kernel_rfl, ?_⟩; intro w hSw; (try dsimp only at hSw); go_simp; (try with_reducible rfl)); (try simp only [Act.put, List.setIfInBounds_toArray, List.set_cons_zero, List.set_cons_succ]))
      (refine heldTake (i := 10) (oi := { dst := some 29, op := Op.binOp BinOp.add 9 (Operand.tmp 27) (Operand.tmp 28) 9, type := 9, pos := "ref.go:82", after := #[{ on := 8, ground := Ground.data }, { on := 9, ground := Ground.data }], guard := none }) (v := ?_) rfl (by kernel_rfl) (by kernel_rfl) (by kernel_rfl) (by assumption) ?_ ?_; rotate_left; focus (refine .inl ⟨by kernel_rfl, ?_⟩; intro w hSw; (try dsimp only at hSw); go_simp; (try with_reducible rfl)); (try simp only [Act.put, List.setIfInBounds_toArray, List.set_cons_zero, List.set_cons_succ]))
      (refine heldTake (i := 11) (oi := { dst := some 2, op := Op.assign (Operand.tmp 29), type := 9, pos := "ref.go:82", after := #[{ on := 10, ground := Ground.data }, { on := 7, ground := Ground.chain }, { on := 0, ground := Ground.phase }, { on := 1, ground := Ground.phase }, { on := 2, ground := Ground.phase }, { on := 3, ground := Ground.phase }, { on := 4, ground := Ground.phase }, { on := 5, ground := Ground.phase }, { on := 6, ground := Ground.phase }, { on := 7, ground := Ground.phase }, { on := 8, ground := Ground.phase }, { on := 9, ground := Ground.phase }, { on := 10, ground := Ground.phase }], guard := none }) (v := ?_) rfl (by kernel_rfl) (by kernel_rfl) (by kernel_rfl) (by assumption) ?_ ?_; rotate_left; focus (refine .inl ⟨by kernel_rfl, ?_⟩; intro w hSw; (try dsimp only at hSw); go_simp; (try with_reducible rfl)); (try simp only [Act.put, List.setIfInBounds_toArray, List.set_cons_zero, List.set_cons_succ]))
      refine wpAnyH_done (by kernel_rfl) ?_ _
      refine NoPanic.normal ?_
      have hLast := hHeld4
      clear hHeld4
      go_wp2
      go_ret
      exact ⟨by rw [HSP.out, ← cat3]; rfl, HBE.out.trans (hLast.2.mono HBE.out.size)⟩
  · go_simp
    (go_at_call 60; (with_reducible refine (HC.out _).mono ?_); rintro e w7 ⟨rfl, hb7⟩; have HB7 := Lib.hid hb7; clear hb7)
    refine hK.out _ _ (hold1 hHeld HB7.out) (fun hHeld7 => ?_)
    clear hK K hHeld
    (try simp only [Act.put, List.setIfInBounds_toArray, List.set_cons_zero, List.set_cons_succ])
    refine wpAnyH_ready (rs := [3]) (by kernel_rfl) (by simp) ?_
    refine (AllReadyH.cons (o := { dst := some 22, op := Op.buildSlice 25 1 #[(0, Operand.tmp 21)], type := 25, pos := "ref.go:82", after := #[{ on := 2, ground := Ground.data }], guard := none }) rfl (fun K hK => ?_) AllReadyH.nil)
    refine step_build1 rfl _ rfl x.id rfl ?_; intro g3 wa3 hg3 hb3 hp3; have HB3 := Lib.hid hb3; have HP3 := Lib.hid hp3; clear hb3 hp3
    refine hK.out _ _ (hold1 hHeld7 HB3.out) (fun hHeld3 => ?_)
    clear hK K hHeld7
    (try simp only [Act.put, List.setIfInBounds_toArray, List.set_cons_zero, List.set_cons_succ])
    refine wpAnyH_ready (rs := [4]) (by kernel_rfl) (by simp) ?_
    refine (AllReadyH.cons (o := { dst := some 23, op := Op.convert 25 9 (Operand.tmp 22), type := 9, pos := "ref.go:82", after := #[{ on := 3, ground := Ground.data }], guard := none }) rfl (fun K hK => ?_) AllReadyH.nil)
    go_simp; refine upon_str (l := [x.id]) (HP3.out) ?_; have HB4 := Lib.hid (Below.refl 0 w)
    refine hK.out _ _ hHeld3 (fun hHeld4 => ?_)
    clear hK K hHeld3
    (try simp only [Act.put, List.setIfInBounds_toArray, List.set_cons_zero, List.set_cons_succ])
    (refine heldTake (i := 8) (oi := { dst := some 27, op := Op.binOp BinOp.add 9 (Operand.tmp 23) (Operand.tmp 26) 9, type := 9, pos := "ref.go:82", after := #[{ on := 4, ground := Ground.data }, { on := 7, ground := Ground.data }], guard := none }) (v := ?_) rfl (by kernel_rfl) (by kernel_rfl) (by kernel_rfl) (by assumption) ?_ ?_; rotate_left; focus (refine .inl ⟨by kernel_rfl, ?_⟩; intro w hSw; (try dsimp only at hSw); go_simp; (try with_reducible rfl)); (try simp only [Act.put, List.setIfInBounds_toArray, List.set_cons_zero, List.set_cons_succ]))
    (refine heldTake (i := 10) (oi := { dst := some 29, op := Op.binOp BinOp.add 9 (Operand.tmp 27) (Operand.tmp 28) 9, type := 9, pos := "ref.go:82", after := #[{ on := 8, ground := Ground.data }, { on := 9, ground := Ground.data }], guard := none }) (v := ?_) rfl (by kernel_rfl) (by kernel_rfl) (by kernel_rfl) (by assumption) ?_ ?_; rotate_left; focus (refine .inl ⟨by kernel_rfl, ?_⟩; intro w hSw; (try dsimp only at hSw); go_simp; (try with_reducible rfl)); (try simp only [Act.put, List.setIfInBounds_toArray, List.set_cons_zero, List.set_cons_succ]))
    (refine heldTake (i := 11) (oi := { dst := some 2, op := Op.assign (Operand.tmp 29), type := 9, pos := "ref.go:82", after := #[{ on := 10, ground := Ground.data }, { on := 7, ground := Ground.chain }, { on := 0, ground := Ground.phase }, { on := 1, ground := Ground.phase }, { on := 2, ground := Ground.phase }, { on := 3, ground := Ground.phase }, { on := 4, ground := Ground.phase }, { on := 5, ground := Ground.phase }, { on := 6, ground := Ground.phase }, { on := 7, ground := Ground.phase }, { on := 8, ground := Ground.phase }, { on := 9, ground := Ground.phase }, { on := 10, ground := Ground.phase }], guard := none }) (v := ?_) rfl (by kernel_rfl) (by kernel_rfl) (by kernel_rfl) (by assumption) ?_ ?_; rotate_left; focus (refine .inl ⟨by kernel_rfl, ?_⟩; intro w hSw; (try dsimp only at hSw); go_simp; (try with_reducible rfl)); (try simp only [Act.put, List.setIfInBounds_toArray, List.set_cons_zero, List.set_cons_succ]))
    refine wpAnyH_done (by kernel_rfl) ?_ _
    refine NoPanic.normal ?_
    have hLast := hHeld4
    clear hHeld4
    go_wp2
    go_ret
    exact ⟨by rw [HSP.out, ← cat3]; rfl, HBE.out.trans (hLast.2.mono HBE.out.size)⟩
set_option maxHeartbeats 1600000 in
theorem refPut_custom (x : Sct) (w : World) (hn : x.name.length ≤ 100000) (hb : x.body.length ≤ 100000) (h0 : x.id.toNat = 0) :
    Calls Tryd.prog 12 #[rsecV x] w (Strs (sputL x) w) := by
  have hW := Whole.made w 29 (rsecK x)
  have hb0 := below_box w (.cells (rsecK x) 29)
  have k0 := hW.cell 0
  have k1 := hW.cell 1
  have k2 := hW.cell 2
  simp only [rsecK, List.getElem?_toArray, List.getElem?_cons_zero, List.getElem?_cons_succ] at k0 k1 k2
  have hsl : (sputL x).length ≤ 400000 := by have := (sputL_len hn hb (by omega)).2; omega
  have e0 : ((x.id.toNat : Int) == 0) = true := by simp; omega
  have hin : innerL x = lebL x.name.length ++ x.name ++ x.body := by unfold innerL; rw [if_pos h0]
  have hl0 := innerL_len hn hb (by omega)
  have hs4 : (lebL (x.name.length : Int)).length + x.name.length + x.body.length ≤ 400000 := by rw [hin, List.length_append, List.length_append] at hl0; omega
  obtain ⟨L, hL⟩ : ∃ L, L = innerL x := ⟨_, rfl⟩
  have hsp : sputL x = [x.id] ++ lebL L.length ++ L := by unfold sputL; rw [hL]
  have hs3 : ([x.id] : List UInt8).length + (lebL (L.length : Int)).length + L.length ≤ 400000 := by rw [hsp, List.length_append, List.length_append] at hsl; exact hsl
  have hx := x.id.toNat_lt
  have wu : IntKind.u8.wrap (x.id.toNat : Int) = x.id.toNat := by simp [IntKind.wrap, IntKind.bits, IntKind.signed]; omega
  have HIN := Lib.hid (hL.trans hin)
  have HSP := Lib.hid hsp
  have HS3 := Lib.hid hs3
  have sL := S_size L
  have sn := S_size x.name
  have sb := S_size x.body
  have hc := fun w => count_any (L.length : Int) w (by omega) (by omega)
  have hc2 := fun w => count_any (x.name.length : Int) w (by omega) (by omega)
  obtain ⟨y, hy⟩ : ∃ y, y = lebL (L.length : Int) := ⟨_, rfl⟩
  obtain ⟨z, hz⟩ : ∃ z, z = lebL (x.name.length : Int) := ⟨_, rfl⟩
  rw [← hy] at hc HSP HS3
  rw [← hz] at hc2 HIN hs4
  have HC := Lib.hid hc
  have HC2 := Lib.hid hc2
  have sy := S_size y
  have sz := S_size z
  have s1 := S_size [x.id]
  have hyl : y.length ≤ 400000 := by have := HS3.out; omega
  have hll : L.length ≤ 400000 := by have := HS3.out; omega
  have q1 : ¬ 9223372036854775807 < (S [x.id]).size + (S y).size := by rw [s1, sy, List.length_singleton]; omega
  have q2 : ¬ 9223372036854775807 < (S [x.id]).size + (S y).size + L.length := by rw [s1, sy, List.length_singleton]; omega
  have q3 : ¬ 9223372036854775807 < (S z).size + x.name.length := by rw [sz]; omega
  have q4 : ¬ 9223372036854775807 < (S z).size + x.name.length + x.body.length := by rw [sz]; omega
  unfold rsecV
  unfold rsecK at hb0
  clear h0 hin hsp hsl hs3 hs4 hW hL hy hz s1 sy sz hc hc2 hyl hll hl0
  go_enter Tryd.func12, Tryd.ntmps12
  go_upto_region 3 with fail
  generalize w.alloc (.cells #[.int .i64 x.id.toNat, .string (S x.name), .string (S x.body), .int .i64 0] 29) = W0 at *
  have HBE := Lib.hid hb0
  clear hb0
  go_cut [3] (fun s W => s = .string (S L) ∧ Below W0.heap.size W0 W)
  case first =>
    refine wp_region_noPanic ?_
    refine wp_region_held_drew (S := fun W => W.cell? ⟨w.heap.size, 1, none⟩ = some (.string (S x.name)) ∧ W.cell? ⟨w.heap.size, 2, none⟩ = some (.string (S x.body)) ∧ Below W0.heap.size W0 W) (by kernel_rfl) ⟨k1, k2, (Below.refl _ _).drew⟩ (fun hHeld => ?_)
    (refine heldTake (i := 0) (oi := { dst := some 9, op := Op.fieldAddr 29 (Operand.tmp 1) 1, type := 0, pos := "ref.go:80", after := #[], guard := none }) (v := ?_) rfl (by kernel_rfl) (by kernel_rfl) (by kernel_rfl) (by assumption) ?_ ?_; rotate_left; focus (refine .inl ⟨by kernel_rfl, ?_⟩; intro w hSw; (try dsimp only at hSw); go_simp; (try with_reducible rfl)); (try simp only [Act.put, List.setIfInBounds_toArray, List.set_cons_zero, List.set_cons_succ]))
    (refine heldTake (i := 1) (oi := { dst := some 10, op := Op.load 9 (Operand.tmp 9), type := 9, pos := "ref.go:80", after := #[{ on := 0, ground := Ground.data }], guard := none }) (v := ?_) rfl (by kernel_rfl) (by kernel_rfl) (by kernel_rfl) (by assumption) ?_ ?_; rotate_left; focus (refine .inl ⟨by kernel_rfl, ?_⟩; intro w hSw; (try dsimp only at hSw); go_simp; (try with_reducible rfl)); (try simp only [Act.put, List.setIfInBounds_toArray, List.set_cons_zero, List.set_cons_succ]))
    (refine heldTake (i := 2) (oi := { dst := some 11, op := Op.call { callee := Callee.builtin Builtin.len, args := #[Operand.tmp 10], argTypes := #[9] }, type := 3, pos := "ref.go:80", after := #[{ on := 1, ground := Ground.data }], guard := none }) (v := ?_) rfl (by kernel_rfl) (by kernel_rfl) (by kernel_rfl) (by assumption) ?_ ?_; rotate_left; focus (refine .inl ⟨by kernel_rfl, ?_⟩; intro w hSw; (try dsimp only at hSw); go_simp; (try with_reducible rfl)); (try simp only [Act.put, List.setIfInBounds_toArray, List.set_cons_zero, List.set_cons_succ]))
    (refine heldTake (i := 4) (oi := { dst := some 13, op := Op.fieldAddr 29 (Operand.tmp 1) 1, type := 0, pos := "ref.go:80", after := #[], guard := none }) (v := ?_) rfl (by kernel_rfl) (by kernel_rfl) (by kernel_rfl) (by assumption) ?_ ?_; rotate_left; focus (refine .inl ⟨by kernel_rfl, ?_⟩; intro w hSw; (try dsimp only at hSw); go_simp; (try with_reducible rfl)); (try simp only [Act.put, List.setIfInBounds_toArray, List.set_cons_zero, List.set_cons_succ]))
    (refine heldTake (i := 5) (oi := { dst := some 14, op := Op.load 9 (Operand.tmp 13), type := 9, pos := "ref.go:80", after := #[{ on := 4, ground := Ground.data }], guard := none }) (v := ?_) rfl (by kernel_rfl) (by kernel_rfl) (by kernel_rfl) (by assumption) ?_ ?_; rotate_left; focus (refine .inl ⟨by kernel_rfl, ?_⟩; intro w hSw; (try dsimp only at hSw); go_simp; (try with_reducible rfl)); (try simp only [Act.put, List.setIfInBounds_toArray, List.set_cons_zero, List.set_cons_succ]))
    (refine heldTake (i := 7) (oi := { dst := some 16, op := Op.fieldAddr 29 (Operand.tmp 1) 2, type := 0, pos := "ref.go:80", after := #[], guard := none }) (v := ?_) rfl (by kernel_rfl) (by kernel_rfl) (by kernel_rfl) (by assumption) ?_ ?_; rotate_left; focus (refine .inl ⟨by kernel_rfl, ?_⟩; intro w hSw; (try dsimp only at hSw); go_simp; (try with_reducible rfl)); (try simp only [Act.put, List.setIfInBounds_toArray, List.set_cons_zero, List.set_cons_succ]))
    (refine heldTake (i := 8) (oi := { dst := some 17, op := Op.load 9 (Operand.tmp 16), type := 9, pos := "ref.go:80", after := #[{ on := 7, ground := Ground.data }], guard := none }) (v := ?_) rfl (by kernel_rfl) (by kernel_rfl) (by kernel_rfl) (by assumption) ?_ ?_; rotate_left; focus (refine .inl ⟨by kernel_rfl, ?_⟩; intro w hSw; (try dsimp only at hSw); go_simp; (try with_reducible rfl)); (try simp only [Act.put, List.setIfInBounds_toArray, List.set_cons_zero, List.set_cons_succ]))
    refine wpAnyH_ready (rs := [3]) (by kernel_rfl) (by simp) ?_
    refine (AllReadyH.cons (o := { dst := some 12, op := Op.call { callee := Callee.value (Operand.func 60), args := #[Operand.tmp 11], argTypes := #[3] }, type := 9, pos := "ref.go:80", after := #[{ on := 2, ground := Ground.data }], guard := none }) rfl (fun K hK => ?_) AllReadyH.nil)
    go_simp
    (go_at_call 60; (with_reducible refine (HC2.out _).mono ?_); rintro e w3 ⟨rfl, hb3⟩; have HB3 := Lib.hid hb3; clear hb3)
    refine hK.out _ _ (hold2 hHeld HB3.out) (fun hHeld3 => ?_)
    clear hK K hHeld
    (try simp only [Act.put, List.setIfInBounds_toArray, List.set_cons_zero, List.set_cons_succ])
    (refine heldTake (i := 6) (oi := { dst := some 15, op := Op.binOp BinOp.add 9 (Operand.tmp 12) (Operand.tmp 14) 9, type := 9, pos := "ref.go:80", after := #[{ on := 3, ground := Ground.data }, { on := 5, ground := Ground.data }], guard := none }) (v := ?_) rfl (by kernel_rfl) (by kernel_rfl) (by kernel_rfl) (by assumption) ?_ ?_; rotate_left; focus (refine .inl ⟨by kernel_rfl, ?_⟩; intro w hSw; (try dsimp only at hSw); go_simp; (try with_reducible rfl)); (try simp only [Act.put, List.setIfInBounds_toArray, List.set_cons_zero, List.set_cons_succ]))
    (refine heldTake (i := 9) (oi := { dst := some 18, op := Op.binOp BinOp.add 9 (Operand.tmp 15) (Operand.tmp 17) 9, type := 9, pos := "ref.go:80", after := #[{ on := 6, ground := Ground.data }, { on := 8, ground := Ground.data }], guard := none }) (v := ?_) rfl (by kernel_rfl) (by kernel_rfl) (by kernel_rfl) (by assumption) ?_ ?_; rotate_left; focus (refine .inl ⟨by kernel_rfl, ?_⟩; intro w hSw; (try dsimp only at hSw); go_simp; (try with_reducible rfl)); (try simp only [Act.put, List.setIfInBounds_toArray, List.set_cons_zero, List.set_cons_succ]))
    (refine heldTake (i := 10) (oi := { dst := some 3, op := Op.assign (Operand.tmp 18), type := 9, pos := "ref.go:80", after := #[{ on := 9, ground := Ground.data }, { on := 3, ground := Ground.chain }, { on := 0, ground := Ground.phase }, { on := 1, ground := Ground.phase }, { on := 2, ground := Ground.phase }, { on := 3, ground := Ground.phase }, { on := 4, ground := Ground.phase }, { on := 5, ground := Ground.phase }, { on := 6, ground := Ground.phase }, { on := 7, ground := Ground.phase }, { on := 8, ground := Ground.phase }, { on := 9, ground := Ground.phase }], guard := none }) (v := ?_) rfl (by kernel_rfl) (by kernel_rfl) (by kernel_rfl) (by assumption) ?_ ?_; rotate_left; focus (refine .inl ⟨by kernel_rfl, ?_⟩; intro w hSw; (try dsimp only at hSw); go_simp; (try with_reducible rfl)); (try simp only [Act.put, List.setIfInBounds_toArray, List.set_cons_zero, List.set_cons_succ]))
    refine wpAnyH_done (by kernel_rfl) ?_ _
    refine NoPanic.normal ?_
    have hLast := hHeld3
    clear hHeld3
    go_wp2
    go_meet
    exact ⟨by rw [HIN.out, ← cat3], hLast.2.2⟩
  case rest =>
    obtain ⟨rfl, hb9⟩ := hcut
    have k9 := (hb9.cell (p := ⟨w.heap.size, 0, none⟩) (block_lt_of_cell k0)).trans k0
    have HBE9 := Lib.hid (HBE.out.trans (hb9.mono HBE.out.size))
    clear hb9 k0 k1 k2 HBE
    go_upto_region 4 with fail
    refine wp_region_noPanic ?_
    refine wp_region_held_drew (S := fun W => W.cell? ⟨w.heap.size, 0, none⟩ = some (.int .i64 x.id.toNat) ∧ Below wc.heap.size wc W) (by kernel_rfl) ⟨k9, (Below.refl _ _).drew⟩ (fun hHeld => ?_)
    (refine heldTake (i := 0) (oi := { dst := some 19, op := Op.fieldAddr 29 (Operand.tmp 1) 0, type := 0, pos := "ref.go:82", after := #[], guard := none }) (v := ?_) rfl (by kernel_rfl) (by kernel_rfl) (by kernel_rfl) (by assumption) ?_ ?_; rotate_left; focus (refine .inl ⟨by kernel_rfl, ?_⟩; intro w hSw; (try dsimp only at hSw); go_simp; (try with_reducible rfl)); (try simp only [Act.put, List.setIfInBounds_toArray, List.set_cons_zero, List.set_cons_succ]))
    (refine heldTake (i := 1) (oi := { dst := some 20, op := Op.load 3 (Operand.tmp 19), type := 3, pos := "ref.go:82", after := #[{ on := 0, ground := Ground.data }], guard := none }) (v := ?_) rfl (by kernel_rfl) (by kernel_rfl) (by kernel_rfl) (by assumption) ?_ ?_; rotate_left; focus (refine .inl ⟨by kernel_rfl, ?_⟩; intro w hSw; (try dsimp only at hSw); go_simp; (try with_reducible rfl)); (try simp only [Act.put, List.setIfInBounds_toArray, List.set_cons_zero, List.set_cons_succ]))
    (refine heldTake (i := 2) (oi := { dst := some 21, op := Op.convert 3 5 (Operand.tmp 20), type := 5, pos := "ref.go:82", after := #[{ on := 1, ground := Ground.data }], guard := none }) (v := ?_) rfl (by kernel_rfl) (by kernel_rfl) (by kernel_rfl) (by assumption) ?_ ?_; rotate_left; focus (refine .inl ⟨by kernel_rfl, ?_⟩; intro w hSw; (try dsimp only at hSw); go_simp; (try with_reducible rfl)); (try simp only [Act.put, List.setIfInBounds_toArray, List.set_cons_zero, List.set_cons_succ]))
    (refine heldTake (i := 5) (oi := { dst := some 24, op := Op.move (Operand.tmp 3), type := 9, pos := "ref.go:82", after := #[], guard := none }) (v := ?_) rfl (by kernel_rfl) (by kernel_rfl) (by kernel_rfl) (by assumption) ?_ ?_; rotate_left; focus (refine .inl ⟨by kernel_rfl, ?_⟩; intro w hSw; (try dsimp only at hSw); go_simp; (try with_reducible rfl)); (try simp only [Act.put, List.setIfInBounds_toArray, List.set_cons_zero, List.set_cons_succ]))
    (refine heldTake (i := 6) (oi := { dst := some 25, op := Op.call { callee := Callee.builtin Builtin.len, args := #[Operand.tmp 24], argTypes := #[9] }, type := 3, pos := "ref.go:82", after := #[{ on := 5, ground := Ground.data }], guard := none }) (v := ?_) rfl (by kernel_rfl) (by kernel_rfl) (by kernel_rfl) (by assumption) ?_ ?_; rotate_left; focus (refine .inl ⟨by kernel_rfl, ?_⟩; intro w hSw; (try dsimp only at hSw); go_simp; (try with_reducible rfl)); (try simp only [Act.put, List.setIfInBounds_toArray, List.set_cons_zero, List.set_cons_succ]))
    (refine heldTake (i := 9) (oi := { dst := some 28, op := Op.move (Operand.tmp 3), type := 9, pos := "ref.go:82", after := #[], guard := none }) (v := ?_) rfl (by kernel_rfl) (by kernel_rfl) (by kernel_rfl) (by assumption) ?_ ?_; rotate_left; focus (refine .inl ⟨by kernel_rfl, ?_⟩; intro w hSw; (try dsimp only at hSw); go_simp; (try with_reducible rfl)); (try simp only [Act.put, List.setIfInBounds_toArray, List.set_cons_zero, List.set_cons_succ]))
    refine wpAnyH_ready (rs := [3, 7]) (by kernel_rfl) (by simp) ?_
    refine (AllReadyH.cons (o := { dst := some 22, op := Op.buildSlice 25 1 #[(0, Operand.tmp 21)], type := 25, pos := "ref.go:82", after := #[{ on := 2, ground := Ground.data }], guard := none }) rfl (fun K hK => ?_) (AllReadyH.cons (o := { dst := some 26, op := Op.call { callee := Callee.value (Operand.func 60), args := #[Operand.tmp 25], argTypes := #[3] }, type := 9, pos := "ref.go:82", after := #[{ on := 6, ground := Ground.data }], guard := none }) rfl (fun K hK => ?_) AllReadyH.nil))
    · refine step_build1 rfl _ rfl x.id rfl ?_; intro g3 wa3 hg3 hb3 hp3; have HB3 := Lib.hid hb3; have HP3 := Lib.hid hp3; clear hb3 hp3
      refine hK.out _ _ (hold1 hHeld HB3.out) (fun hHeld3 => ?_)
      clear hK K hHeld
      (try simp only [Act.put, List.setIfInBounds_toArray, List.set_cons_zero, List.set_cons_succ])
      refine wpAnyH_ready (rs := [4, 7]) (by kernel_rfl) (by simp) ?_
      refine (AllReadyH.cons (o := { dst := some 23, op := Op.convert 25 9 (Operand.tmp 22), type := 9, pos := "ref.go:82", after := #[{ on := 3, ground := Ground.data }], guard := none }) rfl (fun K hK => ?_) (AllReadyH.cons (o := { dst := some 26, op := Op.call { callee := Callee.value (Operand.func 60), args := #[Operand.tmp 25], argTypes := #[3] }, type := 9, pos := "ref.go:82", after := #[{ on := 6, ground := Ground.data }], guard := none }) rfl (fun K hK => ?_) AllReadyH.nil))
      · go_simp; refine upon_str (l := [x.id]) (HP3.out) ?_; have HB4 := Lib.hid (Below.refl 0 w)
        refine hK.out _ _ hHeld3 (fun hHeld4 => ?_)
        clear hK K hHeld3
        (try simp only [Act.put, List.setIfInBounds_toArray, List.set_cons_zero, List.set_cons_succ])
        refine wpAnyH_ready (rs := [7]) (by kernel_rfl) (by simp) ?_
        refine (AllReadyH.cons (o := { dst := some 26, op := Op.call { callee := Callee.value (Operand.func 60), args := #[Operand.tmp 25], argTypes := #[3] }, type := 9, pos := "ref.go:82", after := #[{ on := 6, ground := Ground.data }], guard := none }) rfl (fun K hK => ?_) AllReadyH.nil)
        go_simp
        (go_at_call 60; (with_reducible refine (HC.out _).mono ?_); rintro e w7 ⟨rfl, hb7⟩; have HB7 := Lib.hid hb7; clear hb7)
        refine hK.out _ _ (hold1 hHeld4 HB7.out) (fun hHeld7 => ?_)
        clear hK K hHeld4
        (try simp only [Act.put, List.setIfInBounds_toArray, List.set_cons_zero, List.set_cons_succ])
        (refine heldTake (i := 8) (oi := { dst := some 27, op := Op.binOp BinOp.add 9 (Operand.tmp 23) (Operand.tmp 26) 9, type := 9, pos := "ref.go:82", after := #[{ on := 4, ground := Ground.data }, { on := 7, ground := Ground.data }], guard := none }) (v := ?_) rfl (by kernel_rfl) (by kernel_rfl) (by kernel_rfl) (by assumption) ?_ ?_; rotate_left; focus (refine .inl ⟨by kernel_rfl, ?_⟩; intro w hSw; (try dsimp only at hSw); go_simp; (try with_reducible rfl)); (try simp only [Act.put, List.setIfInBounds_toArray, List.set_cons_zero, List.set_cons_succ]))
        (refine heldTake (i := 10) (oi := { dst := some 29, op := Op.binOp BinOp.add 9 (Operand.tmp 27) (Operand.tmp 28) 9, type := 9, pos := "ref.go:82", after := #[{ on := 8, ground := Ground.data }, { on := 9, ground := Ground.data }], guard := none }) (v := ?_) rfl (by kernel_rfl) (by kernel_rfl) (by kernel_rfl) (by assumption) ?_ ?_; rotate_left; focus (refine .inl ⟨by kernel_rfl, ?_⟩; intro w hSw; (try dsimp only at hSw); go_simp; (try with_reducible rfl)); (try simp only [Act.put, List.setIfInBounds_toArray, List.set_cons_zero, List.set_cons_succ]))
        (refine heldTake (i := 11) (oi := { dst := some 2, op := Op.assign (Operand.tmp 29), type := 9, pos := "ref.go:82", after := #[{ on := 10, ground := Ground.data }, { on := 7, ground := Ground.chain }, { on := 0, ground := Ground.phase }, { on := 1, ground := Ground.phase }, { on := 2, ground := Ground.phase }, { on := 3, ground := Ground.phase }, { on := 4, ground := Ground.phase }, { on := 5, ground := Ground.phase }, { on := 6, ground := Ground.phase }, { on := 7, ground := Ground.phase }, { on := 8, ground := Ground.phase }, { on := 9, ground := Ground.phase }, { on := 10, ground := Ground.phase }], guard := none }) (v := ?_) rfl (by kernel_rfl) (by kernel_rfl) (by kernel_rfl) (by assumption) ?_ ?_; rotate_left; focus (refine .inl ⟨by kernel_rfl, ?_⟩; intro w hSw; (try dsimp only at hSw); go_simp; (try with_reducible rfl)); (try simp only [Act.put, List.setIfInBounds_toArray, List.set_cons_zero, List.set_cons_succ]))
        refine wpAnyH_done (by kernel_rfl) ?_ _
        refine NoPanic.normal ?_
        have hLast := hHeld7
        clear hHeld7
        go_wp2
        go_ret
        exact ⟨by rw [HSP.out, ← cat3]; rfl, HBE9.out.trans (hLast.2.mono HBE9.out.size)⟩
      · go_simp
        (go_at_call 60; (with_reducible refine (HC.out _).mono ?_); rintro e w7 ⟨rfl, hb7⟩; have HB7 := Lib.hid hb7; clear hb7)
        refine hK.out _ _ (hold1 hHeld3 HB7.out) (fun hHeld7 => ?_)
        clear hK K hHeld3
        (try simp only [Act.put, List.setIfInBounds_toArray, List.set_cons_zero, List.set_cons_succ])
        refine wpAnyH_ready (rs := [4]) (by kernel_rfl) (by simp) ?_
        refine (AllReadyH.cons (o := { dst := some 23, op := Op.convert 25 9 (Operand.tmp 22), type := 9, pos := "ref.go:82", after := #[{ on := 3, ground := Ground.data }], guard := none }) rfl (fun K hK => ?_) AllReadyH.nil)
        go_simp; refine upon_str (l := [x.id]) (((HP3.out).below HB7.out)) ?_; have HB4 := Lib.hid (Below.refl 0 w)
        refine hK.out _ _ hHeld7 (fun hHeld4 => ?_)
        clear hK K hHeld7
        (try simp only [Act.put, List.setIfInBounds_toArray, List.set_cons_zero, List.set_cons_succ])
        (refine heldTake (i := 8) (oi := { dst := some 27, op := Op.binOp BinOp.add 9 (Operand.tmp 23) (Operand.tmp 26) 9, type := 9, pos := "ref.go:82", after := #[{ on := 4, ground := Ground.data }, { on := 7, ground := Ground.data }], guard := none }) (v := ?_) rfl (by kernel_rfl) (by kernel_rfl) (by kernel_rfl) (by assumption) ?_ ?_; rotate_left; focus (refine .inl ⟨by kernel_rfl, ?_⟩; intro w hSw; (try dsimp only at hSw); go_simp; (try with_reducible rfl)); (try simp only [Act.put, List.setIfInBounds_toArray, List.set_cons_zero, List.set_cons_succ]))
        (refine heldTake (i := 10) (oi := { dst := some 29, op := Op.binOp BinOp.add 9 (Operand.tmp 27) (Operand.tmp 28) 9, type := 9, pos := "ref.go:82", after := #[{ on := 8, ground := Ground.data }, { on := 9, ground := Ground.data }], guard := none }) (v := ?_) rfl (by kernel_rfl) (by kernel_rfl) (by kernel_rfl) (by assumption) ?_ ?_; rotate_left; focus (refine .inl ⟨by kernel_rfl, ?_⟩; intro w hSw; (try dsimp only at hSw); go_simp; (try with_reducible rfl)); (try simp only [Act.put, List.setIfInBounds_toArray, List.set_cons_zero, List.set_cons_succ]))
        (refine heldTake (i := 11) (oi := { dst := some 2, op := Op.assign (Operand.tmp 29), type := 9, pos := "ref.go:82", after := #[{ on := 10, ground := Ground.data }, { on := 7, ground := Ground.chain }, { on := 0, ground := Ground.phase }, { on := 1, ground := Ground.phase }, { on := 2, ground := Ground.phase }, { on := 3, ground := Ground.phase }, { on := 4, ground := Ground.phase }, { on := 5, ground := Ground.phase }, { on := 6, ground := Ground.phase }, { on := 7, ground := Ground.phase }, { on := 8, ground := Ground.phase }, { on := 9, ground := Ground.phase }, { on := 10, ground := Ground.phase }], guard := none }) (v := ?_) rfl (by kernel_rfl) (by kernel_rfl) (by kernel_rfl) (by assumption) ?_ ?_; rotate_left; focus (refine .inl ⟨by kernel_rfl, ?_⟩; intro w hSw; (try dsimp only at hSw); go_simp; (try with_reducible rfl)); (try simp only [Act.put, List.setIfInBounds_toArray, List.set_cons_zero, List.set_cons_succ]))
        refine wpAnyH_done (by kernel_rfl) ?_ _
        refine NoPanic.normal ?_
        have hLast := hHeld4
        clear hHeld4
        go_wp2
        go_ret
        exact ⟨by rw [HSP.out, ← cat3]; rfl, HBE9.out.trans (hLast.2.mono HBE9.out.size)⟩
    · go_simp
      (go_at_call 60; (with_reducible refine (HC.out _).mono ?_); rintro e w7 ⟨rfl, hb7⟩; have HB7 := Lib.hid hb7; clear hb7)
      refine hK.out _ _ (hold1 hHeld HB7.out) (fun hHeld7 => ?_)
      clear hK K hHeld
      (try simp only [Act.put, List.setIfInBounds_toArray, List.set_cons_zero, List.set_cons_succ])
      refine wpAnyH_ready (rs := [3]) (by kernel_rfl) (by simp) ?_
      refine (AllReadyH.cons (o := { dst := some 22, op := Op.buildSlice 25 1 #[(0, Operand.tmp 21)], type := 25, pos := "ref.go:82", after := #[{ on := 2, ground := Ground.data }], guard := none }) rfl (fun K hK => ?_) AllReadyH.nil)
      refine step_build1 rfl _ rfl x.id rfl ?_; intro g3 wa3 hg3 hb3 hp3; have HB3 := Lib.hid hb3; have HP3 := Lib.hid hp3; clear hb3 hp3
      refine hK.out _ _ (hold1 hHeld7 HB3.out) (fun hHeld3 => ?_)
      clear hK K hHeld7
      (try simp only [Act.put, List.setIfInBounds_toArray, List.set_cons_zero, List.set_cons_succ])
      refine wpAnyH_ready (rs := [4]) (by kernel_rfl) (by simp) ?_
      refine (AllReadyH.cons (o := { dst := some 23, op := Op.convert 25 9 (Operand.tmp 22), type := 9, pos := "ref.go:82", after := #[{ on := 3, ground := Ground.data }], guard := none }) rfl (fun K hK => ?_) AllReadyH.nil)
      go_simp; refine upon_str (l := [x.id]) (HP3.out) ?_; have HB4 := Lib.hid (Below.refl 0 w)
      refine hK.out _ _ hHeld3 (fun hHeld4 => ?_)
      clear hK K hHeld3
      (try simp only [Act.put, List.setIfInBounds_toArray, List.set_cons_zero, List.set_cons_succ])
      (refine heldTake (i := 8) (oi := { dst := some 27, op := Op.binOp BinOp.add 9 (Operand.tmp 23) (Operand.tmp 26) 9, type := 9, pos := "ref.go:82", after := #[{ on := 4, ground := Ground.data }, { on := 7, ground := Ground.data }], guard := none }) (v := ?_) rfl (by kernel_rfl) (by kernel_rfl) (by kernel_rfl) (by assumption) ?_ ?_; rotate_left; focus (refine .inl ⟨by kernel_rfl, ?_⟩; intro w hSw; (try dsimp only at hSw); go_simp; (try with_reducible rfl)); (try simp only [Act.put, List.setIfInBounds_toArray, List.set_cons_zero, List.set_cons_succ]))
      (refine heldTake (i := 10) (oi := { dst := some 29, op := Op.binOp BinOp.add 9 (Operand.tmp 27) (Operand.tmp 28) 9, type := 9, pos := "ref.go:82", after := #[{ on := 8, ground := Ground.data }, { on := 9, ground := Ground.data }], guard := none }) (v := ?_) rfl (by kernel_rfl) (by kernel_rfl) (by kernel_rfl) (by assumption) ?_ ?_; rotate_left; focus (refine .inl ⟨by kernel_rfl, ?_⟩; intro w hSw; (try dsimp only at hSw); go_simp; (try with_reducible rfl)); (try simp only [Act.put, List.setIfInBounds_toArray, List.set_cons_zero, List.set_cons_succ]))
      (refine heldTake (i := 11) (oi := { dst := some 2, op := Op.assign (Operand.tmp 29), type := 9, pos := "ref.go:82", after := #[{ on := 10, ground := Ground.data }, { on := 7, ground := Ground.chain }, { on := 0, ground := Ground.phase }, { on := 1, ground := Ground.phase }, { on := 2, ground := Ground.phase }, { on := 3, ground := Ground.phase }, { on := 4, ground := Ground.phase }, { on := 5, ground := Ground.phase }, { on := 6, ground := Ground.phase }, { on := 7, ground := Ground.phase }, { on := 8, ground := Ground.phase }, { on := 9, ground := Ground.phase }, { on := 10, ground := Ground.phase }], guard := none }) (v := ?_) rfl (by kernel_rfl) (by kernel_rfl) (by kernel_rfl) (by assumption) ?_ ?_; rotate_left; focus (refine .inl ⟨by kernel_rfl, ?_⟩; intro w hSw; (try dsimp only at hSw); go_simp; (try with_reducible rfl)); (try simp only [Act.put, List.setIfInBounds_toArray, List.set_cons_zero, List.set_cons_succ]))
      refine wpAnyH_done (by kernel_rfl) ?_ _
      refine NoPanic.normal ?_
      have hLast := hHeld4
      clear hHeld4
      go_wp2
      go_ret
      exact ⟨by rw [HSP.out, ← cat3]; rfl, HBE9.out.trans (hLast.2.mono HBE9.out.size)⟩
theorem refPut_sect (x : Sct) (w : World) (hn : x.name.length ≤ 100000) (hb : x.body.length ≤ 100000) :
    Calls Tryd.prog 12 #[rsecV x] w (Strs (sputL x) w) := by
  by_cases h0 : x.id.toNat = 0
  · exact refPut_custom x w hn hb h0
  · exact refPut_other x w hn hb h0
theorem refHead (w : World) : Calls Tryd.prog 63 #[] w fun e w' => e = .returned (.string (S headL)) ∧ w = w' := by
  go_enter Tryd.func63, Tryd.ntmps63
  go_wp2
  go_ret
  exact ⟨rfl, rfl⟩
end Go.Proofs.YtanddfkhokcepaaDoor

/- sect.Join, Find; the reference's Join. -/
namespace Go.Proofs.YtanddfkhokcepaaDoor
open Go.RowKit
set_option linter.unusedVariables false
set_option maxRecDepth 100000

set_option maxHeartbeats 1000000 in
theorem join_sect {w : World} {A : Option Addr} {c : Nat} {l : List Sct} (hl : Secs w A l) (hs : Short l) :
    Calls Tryd.prog 14 #[.slice A l.length c] w fun e w' => ∃ v, e = .returned v ∧ JRow w' w.heap.size v (joinL l) ∧ Below w.heap.size w w' := by
  have HL := Lib.hid hl
  have HS := Lib.hid hs
  obtain ⟨n, hn⟩ : ∃ n, n = l.length := ⟨_, rfl⟩
  have HN := Lib.hid hn
  have hn30 : n ≤ 30 := by rw [hn]; exact hs.1
  rw [← hn]
  have kc := fun (w : World) (C : Array Value) (n c : Nat) => Lib.run_convert_bytes_const (P := Tryd.prog) w 25 5 C n c Tryd.underlying25 Tryd.underlying5
  have hj0 : JRow (w.alloc (.cells #[.int .u8 0, .int .u8 97, .int .u8 115, .int .u8 109, .int .u8 1, .int .u8 0, .int .u8 0, .int .u8 0] 5 (8, 9))) w.heap.size (.slice (some ⟨w.heap.size, 0, none⟩) 8 8) (headL ++ putsL (l.take 0)) := by
    have e : headL ++ putsL (l.take 0) = headL := by rw [List.take_zero]; rfl
    rw [e]
    have h := lies_made w headL (8, 9)
    rw [head_cells] at h
    exact .inr ⟨_, rfl, Nat.le_refl _, by simp, by rw [size_box]; exact h⟩
  have HJ := Lib.hid hj0
  clear hl hs hn hj0
  go_enter Tryd.func14, Tryd.ntmps14
  go_wp2
  clear kc
  go_loopw [3, 10] (fun v i wr => ∃ k : Nat, k ≤ n ∧ i = .int .i64 k ∧ JRow wr w.heap.size v (headL ++ putsL (l.take k)) ∧ Below w.heap.size w wr) (fun _ i _ => n - (intOf i).toNat)
  case atStart => exact ⟨0, Nat.zero_le _, rfl, HJ.out, below_box _ _⟩
  case round =>
    obtain ⟨k, hk, rfl, hr, hb⟩ := hrel
    have hz1 := hb.size
    by_cases hlt : k < n
    · obtain ⟨x, hx⟩ : ∃ x, l[k]? = some x := ⟨_, List.getElem?_eq_getElem (by rw [← HN.out]; exact hlt)⟩
      obtain ⟨b, off, B, cc, rfl, hbl, ⟨k0, k1, k2, k3⟩, hpc⟩ := HL.out k x hx
      have m0 := (hb.cell (p := ⟨b, off + k * 4, none⟩) hbl).trans k0
      have m1 := (hb.cell (p := ⟨b, off + k * 4 + 1, none⟩) hbl).trans k1
      have m2 := (hb.cell (p := ⟨b, off + k * 4 + 2, none⟩) hbl).trans k2
      have m3 := (hb.cell (p := ⟨b, off + k * 4 + 3, none⟩) hbl).trans k3
      obtain ⟨hxn, hxb⟩ := HS.out.2 x (List.mem_of_getElem? hx)
      have hB := hb.alloc hz1 (.cells (secK x B cc) 27)
      have HB := Lib.hid hB
      have HR := Lib.hid (hr.later (below_box wr (.cells (secK x B cc) 27)))
      have HPU := Lib.hid (put_sect x B cc (wr.alloc (.cells (secK x B cc) 27)) (hpc.below hB) (by omega) (by omega))
      have hsz : w.heap.size ≤ (wr.alloc (.cells (secK x B cc) 27)).heap.size := hB.size
      have hlen1 := joinL_len (HS.out.take k)
      have hlen2 := sputL_len (n := 300) hxn (by omega) (by omega)
      have HSN := Lib.hid (putsL_snoc hx)
      unfold joinL at hlen1
      obtain ⟨y, hy⟩ : ∃ y, y = sputL x := ⟨_, rfl⟩
      rw [← hy] at HPU hlen2 HSN
      have hy0 : 0 < y.length := by omega
      have hy1 : (headL ++ putsL (l.take k)).length + y.length ≤ 1000000 := by omega
      unfold secK secV at HPU
      unfold secK at HR HB hsz
      clear hr hb k0 k1 k2 k3 hx hpc hB hlen1 hlen2 hy hxn hxb HJ
      go_wp2_with (first
        | (at_builtin; (refine jrow_app rfl _ _ rfl w.heap.size _ (headL ++ putsL (l.take k)) rfl HR2.out A2 y.length c2 y rfl rfl HP2.out hy0 hy1 hs2 ?_; intro v3 w3 hr3 hb3; have HR3 := Lib.hid hr3; have HB3 := Lib.hid hb3; clear hr3 hb3))
        | (go_at_call 11; go_must ((with_reducible refine HPU.out.mono ?_); intro e w2 hq; obtain ⟨v2, rfl, hr2, hb2⟩ := hq; obtain ⟨A2, c2, rfl, hp2⟩ := hr2.pc; have HR2 := Lib.hid (HR.out.later hb2); have HB2 := Lib.hid (HB.out.trans (hb2.mono hsz)); have HP2 := Lib.hid hp2; have hs2 : w.heap.size ≤ w2.heap.size := Nat.le_trans hsz hb2.size; clear hr2 hb2 hp2)))
      go_roundw
      case rel => exact ⟨k + 1, by omega, by go_num, by rw [HSN.out, ← List.append_assoc]; exact .inl HR3.out, HB2.out.trans HB3.out⟩
      case measure => simp [intOf]; omega
    · obtain rfl : k = n := by omega
      have HR := Lib.hid hr
      have HB := Lib.hid hb
      have HT := Lib.hid (show l.take k = l by rw [HN.out]; exact List.take_length)
      clear hr hb HJ
      go_wp2
      go_ret
      exact ⟨_, rfl, by have := HR.out; rw [HT.out] at this; exact this, HB.out⟩
end Go.Proofs.YtanddfkhokcepaaDoor

/- Rows of the reference's sections; the reference's Join. -/
namespace Go.Proofs.YtanddfkhokcepaaDoor
open Go.RowKit
set_option linter.unusedVariables false
set_option maxRecDepth 100000

theorem infoRef : (Tryd.prog.info? 29).map (fun i => (i.zero, i.size, i.bytes)) = some (some (.agg #[.int .i64 0, .string { data := #[] }, .string { data := #[] }, .int .i64 0]), 4, 48) := by kernel_rfl
def rowQ (x : Sct) : List Value := [.int .i64 x.id.toNat, .string (S x.name), .string (S x.body), .int .i64 0]
def RowQ (W : World) (base : Nat) (v : Value) (rows : List Sct) : Prop := W.ownsRow base 29 4 v rows.length (rows.flatMap rowQ)
/-- The slice at A reads as the reference's sections. -/
def RSecs (w : World) (A : Option Addr) (l : List Sct) : Prop :=
  ∀ j x, l[j]? = some x → ∃ b off, A = some ⟨b, off, none⟩ ∧ b < w.heap.size ∧ (w.cell? ⟨b, off + j * 4, none⟩ = some (.int .i64 x.id.toNat) ∧ w.cell? ⟨b, off + j * 4 + 1, none⟩ = some (.string (S x.name)) ∧
    w.cell? ⟨b, off + j * 4 + 2, none⟩ = some (.string (S x.body)) ∧ w.cell? ⟨b, off + j * 4 + 3, none⟩ = some (.int .i64 0))
theorem RSecs.below {w w' : World} {A : Option Addr} {l : List Sct} (h : RSecs w A l) (hb : Below w.heap.size w w') : RSecs w' A l := fun j x hx => by
  obtain ⟨b, off, e, h1, ⟨k0, k1, k2, k3⟩⟩ := h j x hx
  exact ⟨b, off, e, Nat.lt_of_lt_of_le h1 hb.size, ⟨(hb.cell (p := ⟨b, _, none⟩) h1).trans k0, (hb.cell (p := ⟨b, _, none⟩) h1).trans k1, (hb.cell (p := ⟨b, _, none⟩) h1).trans k2, (hb.cell (p := ⟨b, _, none⟩) h1).trans k3⟩⟩
theorem flatQ_get : ∀ (l : List Sct) (j : Nat) (x : Sct) (u : Nat), l[j]? = some x → u < 4 → (l.flatMap rowQ)[j * 4 + u]? = (rowQ x)[u]?
  | [], j, x, u, h, _ => by cases h
  | y :: l, 0, x, u, h, hu => by
    injection h with h
    subst h
    rw [List.flatMap_cons, Nat.zero_mul, Nat.zero_add, List.getElem?_append_left (by show u < 4; exact hu)]
  | y :: l, j + 1, x, u, h, hu => by
    rw [List.flatMap_cons, List.getElem?_append_right (by show 4 ≤ _; omega)]
    have e : (j + 1) * 4 + u - (rowQ y).length = j * 4 + u := by show (j + 1) * 4 + u - 4 = _; omega
    rw [e]
    exact flatQ_get l j x u h hu
theorem RowQ.nil (W : World) (base : Nat) : RowQ W base (.slice none 0 0) [] := World.ownsRow_nil W base _ 4
theorem RowQ.later {W W' : World} {base : Nat} {v : Value} {rows : List Sct} (h : RowQ W base v rows) (hb : Below W.heap.size W W') : RowQ W' base v rows :=
  World.ownsRow.kept h (gb_of_below none hb) (by cases v.ownBlock with
    | none => exact .inl rfl
    | some k => exact .inr (by simp))
theorem RowQ.secs {W : World} {base : Nat} {v : Value} {rows : List Sct} (h : RowQ W base v rows) : ∃ A c, v = .slice A rows.length c ∧ RSecs W A rows := by
  rcases h.2 with ⟨rfl, h0⟩ | ⟨g, cap, cur, rfl, _, hg, _, _, _, ht⟩
  · have : rows = [] := List.eq_nil_of_length_eq_zero h0
    subst this
    exact ⟨none, 0, rfl, fun j i hi => by cases hi⟩
  · refine ⟨some ⟨g, 0, none⟩, cap, rfl, fun j x hx => ?_⟩
    have hj := (List.getElem?_eq_some_iff.1 hx).1
    have key : ∀ u, u < 4 → W.cell? ⟨g, 0 + j * 4 + u, none⟩ = (rowQ x)[u]? := fun u hu => by
      rw [cell_of_row W g (0 + j * 4 + u) cur _ _ hg, ← flatQ_get rows j x u hx hu, ← ht, List.getElem?_take, if_pos (by omega)]
      simp
    exact ⟨g, 0, rfl, (Array.getElem?_eq_some_iff.1 hg).1, ⟨key 0 (by omega), key 1 (by omega), key 2 (by omega), key 3 (by omega)⟩⟩
/-- append of a new block of one. -/
theorem rowsQ_new {w : World} {ops : Array Oper} {rest : List Oper} {o : Oper} {a : Act} {Q : Exit → Act → World → Prop} (hgd : o.guard = none) (s x : Operand)
    (ho : o.op = .call { callee := .builtin .append, args := #[s, x], argTypes := #[24, 24] })
    (B : Nat) (v : Value) (l : List Sct) (hs : a.eval s = v) (hr : RowQ w B v l) (g : Nat) (r : Sct) (hx : a.eval x = .slice (some ⟨g, 0, none⟩) 1 1)
    (hg : Whole w g 29 (rowQ r).toArray) (hb : l.length ≤ 10000) (hB : B ≤ w.heap.size)
    (h : ∀ v' w', RowQ w' B v' (l ++ [r]) → Below B w w' → wpList Tryd.prog ops Q rest (a.put o.dst v') w') : wpList Tryd.prog ops Q (o :: rest) a w := by
  obtain ⟨i0, hi0, hz0, hz1, hz2⟩ := info_parts infoRef
  refine wpList_append_own _ hgd s x _ ho B 29 i0 _ 4 48 Tryd.underlying24 hi0 hz0 hz1 hz2 rfl (by omega) v _ _ hs hr ⟨g, 0, none⟩ 1 1 (rowQ r) hx rfl ?_ ?_ (by unfold maxLen; omega) (by omega) hB (fun v' w' h2 h3 _ => h v' w' ?_ (Below.grown (Below.refl _ _) h3 hB (fun k hk => (World.ownsRow.lt hr k hk).1)))
  · intro j u hu
    rw [Go.WideShapes.add_plain, Nat.zero_add, hg.cell]
    simpa using hu
  · intro u hu
    unfold rowQ at hu
    simp only [List.mem_cons, List.not_mem_nil, or_false] at hu
    rcases hu with rfl | rfl | rfl | rfl <;> rfl
  · unfold RowQ
    rw [List.length_append, List.flatMap_append]
    simpa using h2
set_option maxHeartbeats 1000000 in
theorem joinR_any {w : World} {A : Option Addr} {c : Nat} {l : List Sct} (hl : RSecs w A l) (hs : Short l) :
    Calls Tryd.prog 16 #[.slice A l.length c] w (Strs (joinL l) w) := by
  have HL := Lib.hid hl
  have HS := Lib.hid hs
  obtain ⟨n, hn⟩ : ∃ n, n = l.length := ⟨_, rfl⟩
  have HN := Lib.hid hn
  have hn30 : n ≤ 30 := by rw [hn]; exact hs.1
  rw [← hn]
  clear hl hs hn
  go_enter Tryd.func16, Tryd.ntmps16
  go_wp2_with (go_at_call 63; go_must ((with_reducible refine (refHead _).mono ?_); rintro e w1 ⟨rfl, rfl⟩))
  go_loopw [3, 4] (fun v i wr => ∃ k : Nat, k ≤ n ∧ i = .int .i64 k ∧ v = .string (S (headL ++ putsL (l.take k))) ∧ Below w.heap.size w wr) (fun _ i _ => n - (intOf i).toNat)
  case atStart => exact ⟨0, Nat.zero_le _, rfl, by rw [List.take_zero]; rfl, Below.refl _ _⟩
  case round =>
    obtain ⟨k, hk, rfl, rfl, hb⟩ := hrel
    have hz1 := hb.size
    by_cases hlt : k < n
    · obtain ⟨x, hx⟩ : ∃ x, l[k]? = some x := ⟨_, List.getElem?_eq_getElem (by rw [← HN.out]; exact hlt)⟩
      obtain ⟨b, off, rfl, hbl, ⟨k0, k1, k2, k3⟩⟩ := HL.out k x hx
      have m0 := (hb.cell (p := ⟨b, off + k * 4, none⟩) hbl).trans k0
      have m1 := (hb.cell (p := ⟨b, off + k * 4 + 1, none⟩) hbl).trans k1
      have m2 := (hb.cell (p := ⟨b, off + k * 4 + 2, none⟩) hbl).trans k2
      have m3 := (hb.cell (p := ⟨b, off + k * 4 + 3, none⟩) hbl).trans k3
      obtain ⟨hxn, hxb⟩ := HS.out.2 x (List.mem_of_getElem? hx)
      have HB := Lib.hid hb
      have HPU := Lib.hid (fun W => refPut_sect x W (by omega) (by omega))
      have hlen1 := joinL_len (HS.out.take k)
      have hlen2 := sputL_len (n := 300) hxn (by omega) (by omega)
      have HSN := Lib.hid (putsL_snoc hx)
      unfold joinL at hlen1
      obtain ⟨y, hy⟩ : ∃ y, y = sputL x := ⟨_, rfl⟩
      rw [← hy] at HPU hlen2 HSN
      obtain ⟨z, hz⟩ : ∃ z, z = headL ++ putsL (l.take k) := ⟨_, rfl⟩
      rw [← hz] at hlen1 ⊢
      have HZ := Lib.hid hz
      have s1 := S_size z
      have s2 := S_size y
      have q1 : ¬ 9223372036854775807 < (S z).size + (S y).size := by omega
      have e1 : S z ++ S y = S (headL ++ putsL (l.take (k + 1))) := by rw [S_append, HSN.out, ← List.append_assoc, hz]
      have HE := Lib.hid e1
      unfold rsecV at HPU
      clear hb k0 k1 k2 k3 hx hlen1 hlen2 hy hxn hxb s1 s2 e1 hz
      go_wp2_with (go_at_call 12; go_must ((with_reducible refine (HPU.out _).mono ?_); rintro e w2 ⟨rfl, hb2⟩; have HB2 := Lib.hid (HB.out.trans (hb2.mono hz1)); clear hb2))
      go_roundw
      case rel => exact ⟨k + 1, by omega, by go_num, by rw [HE.out], HB2.out⟩
      case measure => simp [intOf]; omega
    · obtain rfl : k = n := by omega
      have HB := Lib.hid hb
      have HT := Lib.hid (show l.take k = l by rw [HN.out]; exact List.take_length)
      clear hb
      go_wp2
      go_ret
      exact ⟨by rw [HT.out]; rfl, HB.out⟩
end Go.Proofs.YtanddfkhokcepaaDoor
