/- nest's close and add. -/
import Derived.Test.YtohliaellefhaaaDoorQy09
import Derived.RegionTactic
import Derived.Test.YtohliaellefhaaaDoorQy02
namespace Go.Proofs.YtohliaellefhaaaDoor
open Go.RowKit
set_option linter.unusedVariables false
set_option maxRecDepth 100000

/-- What a step leaves: nest's two cells, the row of open blocks. -/
def Moved (nb base : Nat) (v : Value) (st : List UInt8) (en : Bool) (W W' : World) : Prop :=
  ∃ v' Wm, Whole W' nb 111 #[v', .bool en] ∧ Row W' base v' st ∧ W.grownBy Wm v.ownBlock ∧ Wm.grownBy W' (some nb)
/-- append of a new block of bytes: what is old stays, but for the row. -/
theorem row_newG {w : World} {ops : Array Oper} {rest : List Oper} {o : Oper} {a : Act} {Q : Exit → Act → World → Prop} (hgd : o.guard = none) (s x : Operand)
    (ho : o.op = .call { callee := .builtin .append, args := #[s, x], argTypes := #[36, 36] })
    (B : Nat) (v : Value) (xs : List UInt8) (hs : a.eval s = v) (hr : Row w B v xs)
    (g m : Nat) (news : List UInt8) (hx : a.eval x = .slice (some ⟨g, 0, none⟩) m m) (hl : news.length = m) (hg : w.heap[g]? = some (.cells (cells (nums news)).toArray 5 (0, 0)))
    (hm : 0 < m) (hb : xs.length + news.length ≤ 1000000) (hB : B ≤ w.heap.size)
    (h : ∀ v' w', Row w' B v' (xs ++ news) → w.grownBy w' v.ownBlock → wpList Tryd.prog ops Q rest (a.put o.dst v') w') : wpList Tryd.prog ops Q (o :: rest) a w :=
  wpList_app hgd s x ho B v _ (nums xs) hs hr g m (nums news) hx (by rw [nums_length]; exact hl) hg hm (by omega) hB fun v' w' h2 h3 =>
    h v' w' (by unfold Row; rw [nums_append, List.length_append, hl]; exact h2) h3
section
variable {W : World} {nb base : Nat} {v : Value} {st : List UInt8}
theorem Moved.after {W1 W' : World} {en : Bool} (h : Moved nb base v st en W1 W') (hb : Below W.heap.size W W1) : Moved nb base v st en W W' := by
  obtain ⟨v', Wm, h1, h2, h3, h4⟩ := h
  exact ⟨v', Wm, h1, h2, gb_trans (gb_of_below _ hb) h3, h4⟩
theorem close_ok (hn : Whole W nb 111 #[v, .bool false]) (hr : Row W base v st) (hs : st.length ≤ 100000) :
    Calls Tryd.prog 77 #[.pointer (some ⟨nb, 0, none⟩)] W fun e W' => e = .returned (.tuple #[]) ∧ Moved nb base v (if st = [] then st else st.dropLast) (if st = [] then true else false) W W' := by
  obtain ⟨A, c, rfl, _⟩ := hr.liesN
  have c0 := hn.cell 0
  have c1 := hn.cell 1
  have f0 := hn.frozen 0
  have f1 := hn.frozen 1
  simp only [List.getElem?_toArray, List.getElem?_cons_zero, List.getElem?_cons_succ] at c0 c1
  by_cases h0 : st = []
  · subst h0
    have hp := hn.put 1 (.bool true)
    have HP := Lib.hid hp
    have HR := Lib.hid (hr.later (Below.refl _ _))
    have HAP := Lib.hid (fun (a : Addr) (e : A = some a) => (by subst e; exact hr.apart hn (by decide) : nb ≠ a.block))
    have hgb : W.grownBy (W.setCell ⟨nb, 1, none⟩ (.bool true)) (some nb) := gb_put (p := ⟨nb, 1, none⟩) (gb_refl W _) (.inl rfl) _
    have HG := Lib.hid hgb
    clear hn hr hp hgb
    go_enter Tryd.func77, Tryd.ntmps77
    go_wp2
    refine bodyPost_ret (v := .tuple #[]) (by simp [results, Tryd.results77]) rfl ?_
    refine ⟨rfl, _, W, HP.out, ?_, gb_refl _ _, HG.out⟩
    exact World.ownsRow.kept HR.out HG.out (by
      cases A with
      | none => exact .inl rfl
      | some a => exact .inr (by have := HAP.out a rfl; simp only [Value.ownBlock, ne_eq, Option.some.injEq]; exact fun e => this e.symm))
  · obtain ⟨g, rfl, _, hbg, hglt, hcut, hc1, hc2⟩ := hr.cut h0
    obtain ⟨n, hnn⟩ : ∃ n, st.length = n + 1 := ⟨st.length - 1, by have := List.length_pos_iff.2 h0; omega⟩
    have HAP := Lib.hid (hr.apart hn (by decide))
    have HH := Lib.hid h0
    rw [hnn] at c0 hs hc1 hcut hn
    rw [Nat.add_sub_cancel] at hcut
    have e1 : ((n + 1 : Nat) : Int) - 1 = n := by omega
    have HP := Lib.hid (hn.put 0 (.slice (some ⟨g, 0, none⟩) n c))
    have HC := Lib.hid hcut
    have hgb : W.grownBy (W.setCell ⟨nb, 0, none⟩ (.slice (some ⟨g, 0, none⟩) n c)) (some nb) := gb_put (p := ⟨nb, 0, none⟩) (gb_refl W _) (.inl rfl) _
    have HG := Lib.hid hgb
    rw [hnn]
    clear hn hr hcut hnn h0 hgb
    unfold maxLen at hc2
    have hc3 : ¬ (c : Int) < n := by omega
    go_enter Tryd.func77, Tryd.ntmps77
    go_wp2
    go_end0
    refine ⟨rfl, ?_⟩
    refine ⟨_, W, HP.out, ?_, gb_refl _ _, HG.out⟩
    exact World.ownsRow.kept HC.out HG.out (.inr (by simp only [Value.ownBlock, ne_eq, Option.some.injEq]; exact fun e => HAP.out e.symm))
theorem add_ended (hn : Whole W nb 111 #[v, .bool true]) (op : UInt8) : Calls Tryd.prog 66 #[.pointer (some ⟨nb, 0, none⟩), .int .u8 op.toNat] W fun e W' => e = .returned (.bool false) ∧ W = W' := by
  have c1 := hn.cell 1
  simp only [List.getElem?_toArray, List.getElem?_cons_zero, List.getElem?_cons_succ] at c1
  clear hn
  go_enter Tryd.func66, Tryd.ntmps66
  go_wp2
  go_ret
  exact ⟨rfl, rfl⟩
theorem addZ_11 {st : List UInt8} : addZ st 11 = some (if st = [] then st else st.dropLast, if st = [] then true else false) := by
  unfold addZ
  rw [if_neg (by decide +kernel), if_neg (by decide), if_pos rfl]
  by_cases h : st = []
  · rw [if_pos h, if_pos h, if_pos h]
  · rw [if_neg h, if_neg h, if_neg h]
set_option maxHeartbeats 1000000 in
theorem add_ok {op : UInt8} {st' : List UInt8} {en : Bool} (hT : Tabs W) (hn : Whole W nb 111 #[v, .bool false]) (hr : Row W base v st) (hb : base ≤ W.heap.size) (hs : st.length ≤ 100000) (ha : addZ st op = some (st', en)) :
    Calls Tryd.prog 66 #[.pointer (some ⟨nb, 0, none⟩), .int .u8 op.toNat] W fun e W' => e = .returned (.bool true) ∧ Moved nb base v st' en W W' := by
  have HO := Lib.hid (opens_any op.toNat W hT (by have := op.toNat_lt; omega))
  have c1 := hn.cell 1
  simp only [List.getElem?_toArray, List.getElem?_cons_zero, List.getElem?_cons_succ] at c1
  have HN := Lib.hid hn
  have HR := Lib.hid hr
  clear hn hr
  by_cases h1 : immR op.toNat = 1
  · have hd : (immR op.toNat == 1) = true := by simpa using h1
    rw [hd] at HO
    unfold addZ at ha
    rw [if_pos h1] at ha
    injection ha with ha
    injection ha with ha1 ha2
    subst ha2
    have HST := Lib.hid ha1
    clear ha1
    have HAP := Lib.hid (fun (w1 : World) (h1 : Whole w1 nb 111 #[v, .bool false]) (h2 : Row w1 base v st) => (by
      cases v with
      | slice A n c => cases A with
        | none => simp [Value.ownBlock]
        | some a => have := h2.apart h1 (by decide); simp only [Value.ownBlock, ne_eq, Option.some.injEq]; exact this
      | _ => simp [Value.ownBlock] : some nb ≠ v.ownBlock))
    clear h1 hd
    go_enter Tryd.func66, Tryd.ntmps66
    go_wp2_with (first
      | (at_builtin; (refine row_newG rfl _ _ rfl base v st rfl (HR1.out.alloc _) w1.heap.size 1 [op] rfl rfl (heap_alloc_new w1 _) (by omega) (by simp; omega) (by have := HB1.out.size; simp; omega) ?_; intro v3 w3 hr3 hg3; rw [HST.out] at hr3; have hn3 : Whole w3 nb 111 #[v, .bool false] := (HN1.out.alloc _).grown hg3 (HAP.out _ HN1.out HR1.out); have k3 := hn3.cell 0; have k4 := hn3.frozen 0; simp only [List.getElem?_toArray, List.getElem?_cons_zero, List.getElem?_cons_succ] at k3; obtain ⟨A3, c3, rfl, _⟩ := hr3.liesN; have HR3 := Lib.hid hr3; have HG3 := Lib.hid hg3; have HN3 := Lib.hid hn3; clear hr3 hg3 hn3))
      | (go_at_call 75; go_must ((with_reducible refine HO.out.mono ?_); rintro e w1 ⟨rfl, hb1⟩; have HB1 := Lib.hid hb1; have HR1 := Lib.hid (HR.out.later hb1); have HN1 := Lib.hid (HN.out.below hb1); have k0 := HN1.out.cell 0; have g0 := HN1.out.frozen 0; simp only [List.getElem?_toArray, List.getElem?_cons_zero, List.getElem?_cons_succ] at k0; clear hb1)))
    go_ret
    have hgb : w3.grownBy (w3.setCell ⟨nb, 0, none⟩ (.slice A3 st'.length c3)) (some nb) := gb_put (p := ⟨nb, 0, none⟩) (gb_refl w3 _) (.inl rfl) _
    refine ⟨rfl, _, w3, HN3.out.put 0 _, ?_, gb_trans (gb_alloc (gb_of_below _ HB1.out) _) HG3.out, hgb⟩
    exact World.ownsRow.kept HR3.out hgb (by
      cases A3 with
      | none => exact .inl rfl
      | some a => exact .inr (by have := HR3.out.apart HN3.out (by decide); simp only [Value.ownBlock, ne_eq, Option.some.injEq]; omega))
  · have hd : (immR op.toNat == 1) = false := by simpa using h1
    rw [hd] at HO
    by_cases h5 : op = 5
    · subst h5
      have hl4 : st.getLast? = some 4 := by
        unfold addZ at ha
        rw [if_neg h1, if_pos rfl] at ha
        by_cases h4 : st.getLast? = some 4
        · exact h4
        · rw [if_neg h4] at ha; cases ha
      have ha2 : st' = st.dropLast ++ [5] ∧ en = false := by
        unfold addZ at ha
        rw [if_neg h1, if_pos rfl, if_pos hl4] at ha
        injection ha with ha
        injection ha with ha1 ha2
        exact ⟨ha1.symm, ha2.symm⟩
      obtain ⟨rfl, rfl⟩ := ha2
      have e5 : (((5 : UInt8).toNat : Int) == 5) = true := rfl
      have HTU := Lib.hid (fun w1 h1 h2 => turn_yes (W := w1) (nb := nb) (base := base) (v := v) (st := st) h1 h2 hs hl4)
      have HO5 := Lib.hid (show Calls Tryd.prog 75 #[.int .u8 5] W (fun e w' => e = .returned (.bool false) ∧ Below W.heap.size W w') from HO.out)
      clear h1 hd ha hl4
      go_enter Tryd.func66, Tryd.ntmps66
      go_wp2_with (first
        | (go_at_call 76; go_must ((with_reducible refine (HTU.out _ HN1.out HR1.out).mono ?_); intro e w2 hq; obtain ⟨rfl, hmv⟩ := hq; have HM := Lib.hid hmv; clear hmv))
        | (go_at_call 75; go_must ((with_reducible refine HO5.out.mono ?_); rintro e w1 ⟨rfl, hb1⟩; have HB1 := Lib.hid hb1; have HR1 := Lib.hid (HR.out.later hb1); have HN1 := Lib.hid (HN.out.below hb1); clear hb1)))
      go_ret
      exact ⟨rfl, Moved.after HM.out HB1.out⟩
    · have d5 : ((op.toNat : Int) == 5) = false := by
        have : op.toNat ≠ (5 : UInt8).toNat := fun e => h5 (UInt8.toNat_inj.1 e)
        have e5 : (5 : UInt8).toNat = 5 := rfl
        rw [e5] at this
        simp; omega
      by_cases h11 : op = 11
      · subst h11
        rw [addZ_11] at ha
        injection ha with ha
        injection ha with ha1 ha2
        have HE1 := Lib.hid ha1
        have HE2 := Lib.hid ha2
        clear ha1 ha2
        have e11 : (((11 : UInt8).toNat : Int) == 11) = true := rfl
        have HCL := Lib.hid (fun w1 h1 h2 => close_ok (W := w1) (nb := nb) (base := base) (v := v) (st := st) h1 h2 hs)
        have HO5 := Lib.hid (show Calls Tryd.prog 75 #[.int .u8 11] W (fun e w' => e = .returned (.bool false) ∧ Below W.heap.size W w') from HO.out)
        clear h1 hd h5
        go_enter Tryd.func66, Tryd.ntmps66
        go_wp2_with (first
          | (go_at_call 77; go_must ((with_reducible refine (HCL.out _ HN1.out HR1.out).mono ?_); rintro e w2 ⟨rfl, hmv⟩; have HM := Lib.hid hmv; clear hmv))
          | (go_at_call 75; go_must ((with_reducible refine HO5.out.mono ?_); rintro e w1 ⟨rfl, hb1⟩; have HB1 := Lib.hid hb1; have HR1 := Lib.hid (HR.out.later hb1); have HN1 := Lib.hid (HN.out.below hb1); clear hb1)))
        go_ret
        refine ⟨rfl, ?_⟩
        rw [← HE1.out, ← HE2.out]
        exact Moved.after HM.out HB1.out
      · have d11 : ((op.toNat : Int) == 11) = false := by
          have : op.toNat ≠ (11 : UInt8).toNat := fun e => h11 (UInt8.toNat_inj.1 e)
          have e11 : (11 : UInt8).toNat = 11 := rfl
          rw [e11] at this
          simp; omega
        unfold addZ at ha
        rw [if_neg h1, if_neg h5, if_neg h11] at ha
        injection ha with ha
        injection ha with ha1 ha2
        subst ha1; subst ha2
        clear h1 hd h5 h11
        go_enter Tryd.func66, Tryd.ntmps66
        go_wp2_with (go_at_call 75; go_must ((with_reducible refine HO.out.mono ?_); rintro e w1 ⟨rfl, hb1⟩; have HB1 := Lib.hid hb1; have HR1 := Lib.hid (HR.out.later hb1); have HN1 := Lib.hid (HN.out.below hb1); clear hb1))
        go_ret
        exact ⟨rfl, v, w1, HN1.out, HR1.out, gb_of_below _ HB1.out, gb_refl _ _⟩
theorem add_no {op : UInt8} (hT : Tabs W) (hn : Whole W nb 111 #[v, .bool false]) (hr : Row W base v st) (hs : st.length ≤ 100000) (ha : addZ st op = none) :
    Calls Tryd.prog 66 #[.pointer (some ⟨nb, 0, none⟩), .int .u8 op.toNat] W fun e W' => e = .returned (.bool false) ∧ Below W.heap.size W W' := by
  unfold addZ at ha
  by_cases h1 : immR op.toNat = 1
  · rw [if_pos h1] at ha; cases ha
  · rw [if_neg h1] at ha
    by_cases h5 : op = 5
    · rw [if_pos h5] at ha
      have hl4 : st.getLast? ≠ some 4 := fun e => by rw [if_pos e] at ha; cases ha
      subst h5
      have HO := Lib.hid (opens_any (5 : UInt8).toNat W hT (by decide))
      have hd : (immR (5 : UInt8).toNat == 1) = false := by simpa using h1
      rw [hd] at HO
      have c1 := hn.cell 1
      simp only [List.getElem?_toArray, List.getElem?_cons_zero, List.getElem?_cons_succ] at c1
      have HN := Lib.hid hn
      have HR := Lib.hid hr
      have e5 : (((5 : UInt8).toNat : Int) == 5) = true := rfl
      have HTU := Lib.hid (fun w1 h1 h2 => turn_no (W := w1) (nb := nb) (base := base) (v := v) (st := st) h1 h2 hs hl4)
      have HO5 := Lib.hid (show Calls Tryd.prog 75 #[.int .u8 5] W (fun e w' => e = .returned (.bool false) ∧ Below W.heap.size W w') from HO.out)
      clear h1 hd ha hl4 hn hr
      go_enter Tryd.func66, Tryd.ntmps66
      go_wp2_with (first
        | (go_at_call 76; go_must ((with_reducible refine (HTU.out _ HN1.out HR1.out).mono ?_); rintro e w2 ⟨rfl, rfl⟩))
        | (go_at_call 75; go_must ((with_reducible refine HO5.out.mono ?_); rintro e w1 ⟨rfl, hb1⟩; have HB1 := Lib.hid hb1; have HR1 := Lib.hid (HR.out.later hb1); have HN1 := Lib.hid (HN.out.below hb1); clear hb1)))
      go_ret
      exact ⟨rfl, HB1.out⟩
    · rw [if_neg h5] at ha
      by_cases h11 : op = 11
      · rw [if_pos h11] at ha
        by_cases h0 : st = []
        · rw [if_pos h0] at ha; cases ha
        · rw [if_neg h0] at ha; cases ha
      · rw [if_neg h11] at ha; cases ha
end
end Go.Proofs.YtohliaellefhaaaDoor

/- slices.Equal of labels; instr.Same; the reference's Same. -/
namespace Go.Proofs.YtohliaellefhaaaDoor
open Go.RowKit
set_option linter.unusedVariables false
set_option maxRecDepth 100000

def LiesL (w : World) (A : Option Addr) (l : List Int) : Prop := Lies w w.heap.size A (cells32 l)
theorem LiesL.below {w w' : World} {A : Option Addr} {l : List Int} (h : LiesL w A l) (hb : Below w.heap.size w w') : LiesL w' A l := (Lies.below h hb (Nat.le_refl _)).more hb.size
theorem LiesL.at {w : World} {A : Option Addr} {l : List Int} (h : LiesL w A l) {i : Nat} {d : Int} (hd : l[i]? = some d) : ∃ b off, A = some ⟨b, off, none⟩ ∧ b < w.heap.size ∧ w.cell? ⟨b, off + i, none⟩ = some (.int .u32 d) := by
  obtain ⟨b, off, e, hb, hc⟩ := h i _ (cells32_get hd)
  exact ⟨b, off, e, hb, hc⟩
/-- The first k of two lists are the same. -/
def Eqs (a b : List Int) (k : Nat) : Prop := ∀ j, j < k → a[j]? = b[j]?
theorem Eqs.all {a b : List Int} {n : Nat} (h : Eqs a b n) (ha : a.length = n) (hb : b.length = n) : a = b := by
  apply List.ext_getElem?
  intro j
  rcases Nat.lt_or_ge j n with g | g
  · exact h j g
  · rw [List.getElem?_eq_none (by omega), List.getElem?_eq_none (by omega)]
def BoolPost (p : Bool) (w : World) (e : Ending) (w' : World) : Prop := e = .returned (.bool p) ∧ Below w.heap.size w w'
/-- Are two instructions the same? -/
def sameZ (i k : I) : Bool := decide (i.op = k.op) && decide (i.a = k.a) && decide (i.b = k.b) && decide (i.l = k.l)
theorem below_twoI (w : World) (i k : I) (A B : Option Addr) (c d : Nat) : Below w.heap.size w ((w.alloc (.cells (insC i A c) 58)).alloc (.cells (insC k B d) 58)) := (below_box w _).alloc (by simp) _
theorem same_no {i k : I} {w W : World} (h : ¬ (i.op = k.op ∧ i.a = k.a ∧ i.b = k.b ∧ i.l = k.l)) (hb : Below w.heap.size w W) : BoolPost (sameZ i k) w (.returned (.bool false)) W := by
  refine ⟨ret_bool ?_, hb⟩
  unfold sameZ
  by_cases h1 : i.op = k.op
  · by_cases h2 : i.a = k.a
    · by_cases h3 : i.b = k.b
      · have h4 : ¬ i.l = k.l := fun e => h ⟨h1, h2, h3, e⟩
        simp [h4]
      · simp [h3]
    · simp [h2]
  · simp [h1]
theorem op_ne {a b : UInt8} (h : a ≠ b) : ((a.toNat : Int) == b.toNat) = false := by
  simp
  intro e
  exact h (UInt8.toNat_inj.1 (by omega))
theorem op_eq (a : UInt8) : ((a.toNat : Int) == a.toNat) = true := by simp
end Go.Proofs.YtohliaellefhaaaDoor

/- A list of instructions that lies somewhere; Shape, the reference's Walk and Shape. -/
namespace Go.Proofs.YtohliaellefhaaaDoor
open Go.RowKit
set_option linter.unusedVariables false
set_option maxRecDepth 100000

/-- The instructions lie at A, one behind the other, each with its labels. -/
def Ins (w : World) (A : Option Addr) (l : List I) : Prop :=
  ∀ j i, l[j]? = some i → ∃ b off B c, A = some ⟨b, off, none⟩ ∧ b < w.heap.size ∧ (w.cell? ⟨b, off + j * 4, none⟩ = some (.int .u8 i.op.toNat) ∧ w.cell? ⟨b, off + j * 4 + 1, none⟩ = some (.int .u64 i.a) ∧
    w.cell? ⟨b, off + j * 4 + 2, none⟩ = some (.int .u64 i.b) ∧ w.cell? ⟨b, off + j * 4 + 3, none⟩ = some (.slice B i.l.length c)) ∧ LiesL w B i.l
theorem Ins.below {w w' : World} {A : Option Addr} {l : List I} (h : Ins w A l) (hb : Below w.heap.size w w') : Ins w' A l := fun j i hi => by
  obtain ⟨b, off, B, c, e, h1, ⟨k0, k1, k2, k3⟩, hl⟩ := h j i hi
  exact ⟨b, off, B, c, e, Nat.lt_of_lt_of_le h1 hb.size, ⟨(hb.cell (p := ⟨b, _, none⟩) h1).trans k0, (hb.cell (p := ⟨b, _, none⟩) h1).trans k1, (hb.cell (p := ⟨b, _, none⟩) h1).trans k2, (hb.cell (p := ⟨b, _, none⟩) h1).trans k3⟩, hl.below hb⟩
def opsOf (l : List I) : List UInt8 := l.map (·.op)
def shapeZ (l : List I) : Int := if shapeGo [] (opsOf l) = true then 0 else 30
theorem ops_drop {l : List I} {k : Nat} {i : I} (h : l[k]? = some i) : (opsOf l).drop k = i.op :: (opsOf l).drop (k + 1) := by
  unfold opsOf
  have hk := (List.getElem?_eq_some_iff.1 h)
  obtain ⟨h1, h2⟩ := hk
  rw [List.drop_eq_getElem_cons (by simpa using h1)]
  simp [h2]
/-- The total, seen from where the walk stands. -/
def Stand (l : List I) (k : Nat) (st : List UInt8) (en : Bool) : Prop := shapeGo [] (opsOf l) = (if en then ((opsOf l).drop k).isEmpty else shapeGo st ((opsOf l).drop k))
theorem Stand.step {l : List I} {k : Nat} {st : List UInt8} {i : I} (h : Stand l k st false) (hi : l[k]? = some i) : match addZ st i.op with
    | none => shapeGo [] (opsOf l) = false
    | some (st', en) => Stand l (k + 1) st' en := by
  unfold Stand at h
  rw [if_neg (by simp), ops_drop hi, shape_add] at h
  cases ha : addZ st i.op with
  | none => rw [ha] at h; exact h
  | some q =>
    obtain ⟨st', en⟩ := q
    rw [ha] at h
    cases en
    · exact h
    · exact h
theorem addZ_len {st st' : List UInt8} {op : UInt8} {en : Bool} (h : addZ st op = some (st', en)) : st'.length ≤ st.length + 1 := by
  unfold addZ at h
  repeat' split at h
  all_goals first | (injection h with h; injection h with h1 h2; subst h1; simp; omega) | (injection h with h; injection h with h1 h2; subst h1; simp) | cases h
/-- nest at block nb: its two cells, its row. -/
def Nest (w : World) (nb base : Nat) (st : List UInt8) (en : Bool) : Prop := ∃ v, Whole w nb 111 #[v, .bool en] ∧ Row w base v st
theorem Moved.below {nb base : Nat} {v : Value} {st st0 : List UInt8} {en : Bool} {W W' : World} (h : Moved nb base v st en W W') (hr : Row W base v st0) (hb : base ≤ W.heap.size) (hnb : base ≤ nb) : Below base W W' := by
  obtain ⟨v', Wm, h1, h2, h3, h4⟩ := h
  have b1 : Below base W Wm := Below.grown (Below.refl _ _) h3 hb (fun k hk => (World.ownsRow.lt hr k hk).1)
  exact Below.grown b1 h4 (Nat.le_trans hb h3.size) (fun k hk => by injection hk with hk; omega)
theorem Moved.nest {nb base : Nat} {v : Value} {st : List UInt8} {en : Bool} {W W' : World} (h : Moved nb base v st en W W') : Nest W' nb base st en := by
  obtain ⟨v', Wm, h1, h2, h3, h4⟩ := h
  exact ⟨v', h1, h2⟩
set_option maxHeartbeats 1000000 in
theorem shape_any {w : World} {A : Option Addr} {c : Nat} {l : List I} (hT : Tabs w) (hl : Ins w A l) (hn : l.length ≤ 20000) :
    Calls Tryd.prog 50 #[.slice A l.length c] w (IntPost (shapeZ l) w) := by
  have HL := Lib.hid hl
  have HT := Lib.hid hT
  have HN0 := Lib.hid (Whole.made w 111 #[.slice none 0 0, .bool false])
  obtain ⟨n, hnn⟩ : ∃ n, n = l.length := ⟨_, rfl⟩
  rw [← hnn] at hn ⊢
  have HNN := Lib.hid hnn
  have g0 : decide (20000 < (n : Int)) = false := decide_eq_false (by omega)
  clear hT hl hnn
  go_enter Tryd.func50, Tryd.ntmps50
  go_wp2
  go_loopw [11] (fun i wr => ∃ (k : Nat) (st : List UInt8) (en : Bool), k ≤ n ∧ i = .int .i64 k ∧ Nest wr w.heap.size w.heap.size st en ∧ st.length ≤ k ∧ Stand l k st en ∧ Below w.heap.size w wr ∧ w.heap.size < wr.heap.size) (fun i _ => n - (intOf i).toNat)
  case atStart => exact ⟨0, [], false, Nat.zero_le _, rfl, ⟨_, HN0.out, Row.nil _ _⟩, Nat.le_refl _, rfl, below_box w _, by simp⟩
  case round =>
    obtain ⟨k, st, en, hk, rfl, ⟨v, hnw, hrow⟩, hsl, hst, hb, hlt0⟩ := hrel
    by_cases hlt : k < n
    · obtain ⟨i, hi⟩ : ∃ i, l[k]? = some i := ⟨_, List.getElem?_eq_getElem (by rw [← HNN.out]; exact hlt)⟩
      obtain ⟨b, off, B, cc, rfl, hbl, ⟨k0, k1, k2, k3⟩, _⟩ := HL.out k i hi
      have m0 := (hb.cell (p := ⟨b, off + k * 4, none⟩) hbl).trans k0
      have m1 := (hb.cell (p := ⟨b, off + k * 4 + 1, none⟩) hbl).trans k1
      have m2 := (hb.cell (p := ⟨b, off + k * 4 + 2, none⟩) hbl).trans k2
      have m3 := (hb.cell (p := ⟨b, off + k * 4 + 3, none⟩) hbl).trans k3
      have HB := Lib.hid hb
      have HRW := Lib.hid (hrow.alloc (.cells (insC i B cc) 58))
      have HNW := Lib.hid (hnw.alloc (.cells (insC i B cc) 58))
      have HT2 := Lib.hid ((HT.out.below hb).below (below_box wr (.cells (insC i B cc) 58)))
      have hle : w.heap.size ≤ (wr.alloc (.cells (insC i B cc) 58)).heap.size := by rw [size_box]; omega
      cases en with
      | true =>
        have HS : Hid (shapeZ l = 30) := by
          unfold Stand at hst
          rw [if_pos rfl, ops_drop hi] at hst
          show shapeZ l = 30
          unfold shapeZ
          rw [hst, if_neg (by simp)]
        have HA := Lib.hid (add_ended HNW.out i.op)
        clear hnw hrow hst hb k0 k1 k2 k3 hi
        go_wp2_with (go_at_call 66; go_must ((with_reducible refine HA.out.mono ?_); rintro e w2 ⟨rfl, rfl⟩))
        go_ret
        exact ret_below HS.out.symm (HB.out.alloc (by omega) _)
      | false =>
        have hstep := hst.step hi
        cases ha : addZ st i.op with
        | none =>
          rw [ha] at hstep
          have HS : Hid (shapeZ l = 30) := by
            show shapeZ l = 30
            unfold shapeZ
            rw [hstep, if_neg (by simp)]
          have HA := Lib.hid (add_no HT2.out HNW.out HRW.out (by omega) ha)
          clear hnw hrow hst hb k0 k1 k2 k3 hi hstep ha
          go_wp2_with (go_at_call 66; go_must ((with_reducible refine HA.out.mono ?_); rintro e w2 ⟨rfl, hb2⟩; have HB2 := Lib.hid hb2; clear hb2))
          go_ret
          exact ret_below HS.out.symm ((HB.out.alloc (by omega) _).trans (HB2.out.mono hle))
        | some q =>
          obtain ⟨st', en'⟩ := q
          rw [ha] at hstep
          have HS := Lib.hid hstep
          have hl2 := addZ_len ha
          have HA := Lib.hid (add_ok HT2.out HNW.out HRW.out hle (by omega) ha)
          clear hnw hrow hst hb k0 k1 k2 k3 hi hstep ha
          go_wp2_with (go_at_call 66; go_must ((with_reducible refine HA.out.mono ?_); rintro e w2 ⟨rfl, hm⟩; have HM := Lib.hid hm; clear hm))
          go_roundw
          case rel =>
            have hbb := HM.out.below HRW.out hle (Nat.le_refl _)
            exact ⟨k + 1, st', en', by omega, by go_num, HM.out.nest, by omega, HS.out, (HB.out.alloc (by omega) _).trans hbb, by have := hbb.size; rw [size_box] at this; omega⟩
          case measure => simp [intOf]; omega
    · obtain rfl : k = n := by omega
      have c1 := hnw.cell 1
      simp only [List.getElem?_toArray, List.getElem?_cons_zero, List.getElem?_cons_succ] at c1
      have hd : (opsOf l).drop k = [] := List.drop_eq_nil_of_le (by unfold opsOf; rw [List.length_map, HNN.out]; exact Nat.le_refl _)
      unfold Stand at hst
      rw [hd] at hst
      have HB := Lib.hid hb
      cases en with
      | true =>
        have HS : Hid (shapeZ l = 0) := by show shapeZ l = 0; unfold shapeZ; rw [hst]; rfl
        clear hnw hrow hst hb hd
        go_wp2
        go_ret
        exact ret_below HS.out.symm HB.out
      | false =>
        have HS : Hid (shapeZ l = 30) := by
          show shapeZ l = 30
          unfold shapeZ
          rw [hst, if_neg (by unfold shapeGo; simp)]
        clear hnw hrow hst hb hd
        go_wp2
        go_ret
        exact ret_below HS.out.symm HB.out
end Go.Proofs.YtohliaellefhaaaDoor

/- Bodies as plain data: groups of locals, instructions; the reference's Locals, Much. -/
namespace Go.Proofs.YtohliaellefhaaaDoor
open Go.RowKit
set_option linter.unusedVariables false
set_option maxRecDepth 100000

/-- A group of locals; a body. -/
structure Lo where
  n : UInt32
  t : UInt8
structure Bd where
  ls : List Lo
  b : List I
abbrev bdC (x : Bd) (L : Option Addr) (l : Nat) (B : Option Addr) (c : Nat) : Array Value := #[.slice L x.ls.length l, .slice B x.b.length c]
abbrev bdV (x : Bd) (L : Option Addr) (l : Nat) (B : Option Addr) (c : Nat) : Value := .agg (bdC x L l B c)
abbrev bdZ : Array Value := #[.slice none 0 0, .slice none 0 0]
abbrev TwoB (W : World) (b : Nat) (x : Bd) (L : Option Addr) (l : Nat) (B : Option Addr) (c : Nat) : Prop :=
  W.cell? ⟨b, 0, none⟩ = some (.slice L x.ls.length l) ∧ W.cell? ⟨b, 1, none⟩ = some (.slice B x.b.length c)
theorem Whole.bd {w : World} {b : Nat} {t : TypeId} {x : Bd} {L : Option Addr} {l : Nat} {B : Option Addr} {c : Nat} (h : Whole w b t (bdC x L l B c)) : TwoB w b x L l B c := ⟨h.cell 0, h.cell 1⟩
/-- A block that holds a body, in a world grown from B: what is held of it. -/
abbrev BxBd (W0 : World) (b : Nat) (x : Bd) (L : Option Addr) (l : Nat) (B : Option Addr) (c : Nat) (W : World) : Prop := (Whole W b 61 (bdC x L l B c) ∧ Below W0.heap.size W0 W) ∧ TwoB W b x L l B c
section
variable {W0 W W' : World} {b : Nat} {x : Bd} {L : Option Addr} {l : Nat} {B : Option Addr} {c : Nat}
theorem bxBd_on (h : BxBd W0 b x L l B c W) (hb : Below W.heap.size W W') : BxBd W0 b x L l B c W' := ⟨⟨h.1.1.below hb, h.1.2.trans (hb.mono h.1.2.size)⟩, (h.1.1.below hb).bd⟩
theorem bxBd_start (w : World) (x : Bd) (L : Option Addr) (l : Nat) (B : Option Addr) (c : Nat) : BxBd w w.heap.size x L l B c (w.alloc (.cells (bdC x L l B c) 61)) := ⟨⟨Whole.made _ _ _, below_box _ _⟩, (Whole.made w 61 (bdC x L l B c)).bd⟩
theorem bxBd_bel (h : BxBd W0 b x L l B c W) : Below W0.heap.size W0 W := h.1.2
end
/-- The slice at A reads as these groups. -/
def Los (w : World) (A : Option Addr) (l : List Lo) : Prop :=
  ∀ j x, l[j]? = some x → ∃ b off, A = some ⟨b, off, none⟩ ∧ b < w.heap.size ∧ w.cell? ⟨b, off + j * 2, none⟩ = some (.int .u32 x.n.toNat) ∧ w.cell? ⟨b, off + j * 2 + 1, none⟩ = some (.int .u8 x.t.toNat)
theorem Los.below {w w' : World} {A : Option Addr} {l : List Lo} (h : Los w A l) (hb : Below w.heap.size w w') : Los w' A l := fun j x hx => by
  obtain ⟨b, off, e, h1, h2, h3⟩ := h j x hx
  exact ⟨b, off, e, Nat.lt_of_lt_of_le h1 hb.size, (hb.cell (p := ⟨b, _, none⟩) h1).trans h2, (hb.cell (p := ⟨b, _, none⟩) h1).trans h3⟩
/-- How many locals behind n; -1: too many. -/
def locGo : Nat → List Lo → Int
  | n, [] => n
  | n, x :: r => if 1000 < x.n.toNat ∨ 1000 < n + x.n.toNat then -1 else locGo (n + x.n.toNat) r
theorem lo_drop {l : List Lo} {k : Nat} {x : Lo} (h : l[k]? = some x) : l.drop k = x :: l.drop (k + 1) := by
  obtain ⟨h1, h2⟩ := List.getElem?_eq_some_iff.1 h
  rw [List.drop_eq_getElem_cons h1, h2]
theorem locGo_ge : ∀ (n : Nat) (l : List Lo), locGo n l < 0 → locGo n l = -1
  | n, [], h => by unfold locGo at h; omega
  | n, x :: r, h => by
    unfold locGo at h ⊢
    by_cases e : 1000 < x.n.toNat ∨ 1000 < n + x.n.toNat
    · rw [if_pos e]
    · rw [if_neg e] at h ⊢
      exact locGo_ge _ r h
/-- Their types, one for each local. -/
def typL (l : List Lo) : List UInt8 := l.flatMap fun x => List.replicate x.n.toNat x.t
theorem typL_len : ∀ (n : Nat) (l : List Lo), 0 ≤ locGo n l → locGo n l = n + (typL l).length ∧ (n ≤ 1000 → n + (typL l).length ≤ 1000)
  | n, [], h => by simp [locGo, typL]
  | n, x :: r, h => by
    unfold locGo at h ⊢
    by_cases e : 1000 < x.n.toNat ∨ 1000 < n + x.n.toNat
    · rw [if_pos e] at h; omega
    · rw [if_neg e] at h ⊢
      obtain ⟨h1, h2⟩ := typL_len _ r h
      have h3 : (typL (x :: r)).length = x.n.toNat + (typL r).length := by unfold typL; rw [List.flatMap_cons, List.length_append, List.length_replicate]
      rw [h3]
      refine ⟨by rw [h1]; omega, fun _ => by have := h2 (by omega); omega⟩
set_option maxHeartbeats 2000000 in
theorem rloc_any {w : World} {A : Option Addr} {c : Nat} {l : List Lo} (hl : Los w A l) (hn : (l.length : Int) ≤ 9223372036854775807) :
    Calls Tryd.prog 8 #[.slice A l.length c] w fun e w' => e = .returned (.int .i64 (locGo 0 l)) ∧ w = w' := by
  have HL := Lib.hid hl
  obtain ⟨R, hR⟩ : ∃ R, R = locGo 0 l := ⟨_, rfl⟩
  have HR := Lib.hid hR
  rw [← hR]
  obtain ⟨n, hnn⟩ : ∃ n, n = l.length := ⟨_, rfl⟩
  have HNN := Lib.hid hnn
  rw [← hnn] at hn ⊢
  clear hl hnn hR
  go_enter Tryd.func8, Tryd.ntmps8
  go_wp2
  go_loopw [3, 4] (fun s i wr => ∃ (k m : Nat), k ≤ n ∧ i = .int .i64 k ∧ s = .int .i64 m ∧ m ≤ 1000 ∧ locGo m (l.drop k) = R ∧ wr = w) (fun _ i _ => n - (intOf i).toNat)
  case atStart => exact ⟨0, 0, Nat.zero_le _, rfl, rfl, by omega, HR.out.symm, rfl⟩
  case round =>
    obtain ⟨k, m, hk, rfl, rfl, hm, hg, rfl⟩ := hrel
    by_cases hlt : k < n
    · obtain ⟨x, hx⟩ : ∃ x, l[k]? = some x := ⟨_, List.getElem?_eq_getElem (by rw [← HNN.out]; exact hlt)⟩
      obtain ⟨b, off, rfl, hbl, c0, c1⟩ := HL.out k x hx
      rw [lo_drop hx] at hg
      unfold locGo at hg
      have hxn := x.n.toNat_lt
      obtain ⟨v, hv⟩ : ∃ v, v = x.n.toNat := ⟨_, rfl⟩
      rw [← hv] at hg c0 hxn
      have wv : IntKind.i64.wrap (v : Int) = v := by rw [IntKind.wrap_i64]; omega
      have ws : IntKind.i64.wrap ((m : Int) + (v : Int)) = (m : Int) + (v : Int) := by rw [IntKind.wrap_i64]; omega
      by_cases h1 : 1000 < v
      · rw [if_pos (.inl h1)] at hg
        have d1 : decide ((1000 : Int) < (v : Int)) = true := decide_eq_true (by omega)
        clear h1 hv hx
        go_wp2
        go_ret
        subst hg
        exact ⟨rfl, rfl⟩
      · have d1 : decide ((1000 : Int) < (v : Int)) = false := decide_eq_false (by omega)
        by_cases h2 : 1000 < m + v
        · rw [if_pos (.inr h2)] at hg
          have d2 : decide ((1000 : Int) < (m : Int) + (v : Int)) = true := decide_eq_true (by omega)
          clear h1 h2 hv hx
          go_wp2
          go_ret
          subst hg
          exact ⟨rfl, rfl⟩
        · rw [if_neg (by omega)] at hg
          have d2 : decide ((1000 : Int) < (m : Int) + (v : Int)) = false := decide_eq_false (by omega)
          have HG := Lib.hid hg
          clear h1 hv hx hg
          go_wp2
          go_roundw
          case rel => exact ⟨k + 1, m + v, by omega, by go_num, by rw [Int.natCast_add], by omega, HG.out, trivial⟩
          case measure => simp [intOf]; omega
    · have hkn : k = l.length := by rw [← HNN.out]; omega
      rw [hkn, List.drop_length] at hg
      have hg2 : (m : Int) = R := hg
      have HG := Lib.hid hg2
      clear hg hg2 hkn
      go_wp2
      go_ret
      have e := HG.out
      subst e
      exact ⟨rfl, rfl⟩
/-- Has one many labels? -/
def muchZ (l : List I) : Bool := l.any fun i => decide (50 < i.l.length)
theorem much_drop {l : List I} {k : Nat} {i : I} (h : l[k]? = some i) : muchZ (l.drop k) = (decide (50 < i.l.length) || muchZ (l.drop (k + 1))) := by
  obtain ⟨h1, h2⟩ := List.getElem?_eq_some_iff.1 h
  rw [List.drop_eq_getElem_cons h1, h2]
  rfl
end Go.Proofs.YtohliaellefhaaaDoor
