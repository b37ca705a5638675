/- wire.Part, wire.Whole of bytes that are there: a part that a closure with one box of its own reads to its end. -/
import Derived.Test.YtebgmfjgapmpfabGreatDoorQf04
import Derived.Test.YtebgmfjgapmpfabGreatDoorQe03
import Derived.Test.YtebgmfjgapmpfabGreatDoorQe04
import Derived.Deep.DeepMust
import Derived.Test.YtebgmfjgapmpfabGreatDoorQf09
import Derived.Test.YtebgmfjgapmpfabGreatDoorQf05
namespace Go.Proofs.YtebgmfjgapmpfabGreatDoor
open Go.RowKit
set_option linter.unusedVariables false
set_option maxRecDepth 100000

/-- Two blocks alone may have turned. -/
structure Gb2 (w w' : World) (a b : Nat) : Prop where
  os : w'.os = w.os
  tape : w'.tape = w.tape
  output : w'.output = w.output
  size : w.heap.size ≤ w'.heap.size
  block : ∀ k, k < w.heap.size → k ≠ a → k ≠ b → w'.heap[k]? = w.heap[k]?
section
variable {w w1 w2 w' : World} {a b p q X : Nat}
theorem Gb2.refl (w : World) (a b : Nat) : Gb2 w w a b := ⟨rfl, rfl, rfl, Nat.le_refl _, fun _ _ _ _ => rfl⟩
theorem Gb2.trans (h : Gb2 w w1 a b) (k : Gb2 w1 w2 a b) : Gb2 w w2 a b :=
  ⟨k.os.trans h.os, k.tape.trans h.tape, k.output.trans h.output, Nat.le_trans h.size k.size, fun i hi h1 h2 => (k.block i (Nat.lt_of_lt_of_le hi h.size) h1 h2).trans (h.block i hi h1 h2)⟩
theorem Gb2.left (h : w.grownBy w' (some a)) : Gb2 w w' a b := ⟨h.os, h.tape, h.output, h.size, fun i hi h1 _ => h.block i hi (by simp only [ne_eq, Option.some.injEq]; exact h1)⟩
theorem Gb2.right (h : w.grownBy w' (some b)) : Gb2 w w' a b := ⟨h.os, h.tape, h.output, h.size, fun i hi _ h2 => h.block i hi (by simp only [ne_eq, Option.some.injEq]; exact h2)⟩
theorem Gb2.of_below (h : Below w.heap.size w w') : Gb2 w w' a b := .left (gb_of_below _ h)
/-- Seen from before one of the two was made. -/
theorem Gb2.before (h : Gb2 w w1 p X) (k : Gb2 w1 w2 q X) (hq : w.heap.size ≤ q) : Gb2 w w2 p X :=
  ⟨k.os.trans h.os, k.tape.trans h.tape, k.output.trans h.output, Nat.le_trans h.size k.size, fun i hi h1 h2 => (k.block i (Nat.lt_of_lt_of_le hi h.size) (by omega) h2).trans (h.block i hi h1 h2)⟩
theorem Gb2.new (h : Gb2 w w1 p X) (k : w1.grownBy w2 (some b)) (hb : w.heap.size ≤ b) : Gb2 w w2 p X :=
  ⟨k.os.trans h.os, k.tape.trans h.tape, k.output.trans h.output, Nat.le_trans h.size k.size, fun i hi h1 h2 => (k.block i (Nat.lt_of_lt_of_le hi h.size) (by simp only [ne_eq, Option.some.injEq]; omega)).trans (h.block i hi h1 h2)⟩
/-- .. both. -/
theorem Gb2.gb (h : Gb2 w w' a b) (hb : w.heap.size ≤ b) : w.grownBy w' (some a) :=
  ⟨h.os, h.tape, h.output, h.size, fun i hi h1 => h.block i hi (fun e => h1 (by rw [e])) (by omega)⟩
theorem Gb2.whole {g : Nat} {t : TypeId} {cs : Array Value} (h : Gb2 w w' a b) (hw : Whole w g t cs) (h1 : g ≠ a) (h2 : g ≠ b) : Whole w' g t cs := (h.block g hw.lt h1 h2).trans hw
theorem Gb2.sc {l : List UInt8} {k : Nat} (hg : Gb2 w w' a b) (h : Sc w p l k) (h1 : p < a) (h2 : p < b) : Sc w' p l k := by
  have hlt := h.lt
  obtain ⟨A, cap, h3, h4, h5⟩ := h
  refine ⟨A, cap, hg.whole h3 (by omega) (by omega), fun i v hv => ?_, h5⟩
  obtain ⟨c, off, e, h6, h7⟩ := h4 i v hv
  exact ⟨c, off, e, h6, (World.cell?_of_block (a := ⟨c, _, none⟩) (hg.block c (by omega) (by omega) (by omega))).trans h7⟩
/-- A block that holds no byte turns: what a scanner reads stays. -/
theorem Sc.box {l : List UInt8} {k : Nat} {t : TypeId} {cs : Array Value} (h : Sc w q l k) (hX : Whole w X t cs) (hne : X ≠ q) (hno : ∀ (i : Nat) (n : Int), cs[i]? ≠ some (.int .u8 n)) (hg : w.grownBy w' (some X)) : Sc w' q l k := by
  have hlt := h.lt
  obtain ⟨A, cap, h3, h4, h5⟩ := h
  refine ⟨A, cap, h3.grown hg (by simp only [ne_eq, Option.some.injEq]; omega), fun i v hv => ?_, h5⟩
  obtain ⟨c, off, e, h6, h7⟩ := h4 i v hv
  have hcX : c ≠ X := by
    rintro rfl
    rw [hX.cell] at h7
    have hm := List.mem_of_getElem? hv
    unfold cells at hm
    obtain ⟨n, _, rfl⟩ := List.mem_map.1 hm
    exact hno _ _ h7
  exact ⟨c, off, e, h6, (World.cell?_of_block (a := ⟨c, _, none⟩) (hg.block c (by omega) (by simp only [ne_eq, Option.some.injEq]; exact hcX))).trans h7⟩
end

/-- What Part leaves behind. -/
def Parted (p : Nat) (l : List UInt8) (n k1 : Nat) (w : World) (e : Ending) (w' : World) : Prop :=
  ∃ q, e = .returned (.tuple #[.pointer (some ⟨q, 0, none⟩), .int .i64 k1]) ∧ w.heap.size ≤ q ∧ Sc w' q ((l.drop k1).take n) 0 ∧ Sc w' p l (k1 + n) ∧ w.grownBy w' (some p)
set_option maxHeartbeats 800000 in
theorem part_w {w : World} {p : Nat} {l : List UInt8} {k n k1 : Nat} (h : Sc w p l k) (hi : indexR l k = .ok (n : Int) k1) (hm : k1 + n ≤ l.length) :
    Calls Tryz.prog 82 #[.pointer (some ⟨p, 0, none⟩)] w (Parted p l n k1 w) := by
  have hN := index_scan h
  have hle := h.le.2
  rw [hi] at hN
  have HN := Lib.hid hN
  obtain ⟨hk, v0, v1⟩ := uintR_ok (show uintR l k 32 = .ok (n : Int) k1 from hi)
  have v2 : (n : Int) < 4294967296 := v1
  have w1 : IntKind.u64.wrap (n : Int) = n := by simp [IntKind.wrap, IntKind.bits, IntKind.signed]; omega
  have w2 : IntKind.u64.wrap ((l.length : Int) - k1) = (l.length : Int) - k1 := by simp [IntKind.wrap, IntKind.bits, IntKind.signed]; omega
  have w3 : IntKind.i64.wrap (n : Int) = n := by rw [IntKind.wrap_i64]; omega
  have d1 : decide ((n : Int) ≤ (l.length : Int) - k1) = true := by simp; omega
  have d2 : (n : Int) ≤ (l.length : Int) - k1 := by omega
  have HSu := Lib.hid (fun (W : World) (hs : Sc W p l k1) => sub_ok hs n hm)
  clear hN hi h v0 v1 hm
  go_enter Tryz.func82, Tryz.ntmps82
  go_wp2_with (first
    | (go_at_call 106; go_must ((with_reducible refine HN.out.mono ?_); rintro e w1 ⟨rfl, hs, hg⟩; have HS := Lib.hid hs; have HG := Lib.hid hg; clear hs hg))
    | (go_at_call 109; go_must ((with_reducible refine (at_any HS.out).mono ?_); rintro e w2 ⟨rfl, rfl⟩))
    | (go_at_call 84; go_must ((with_reducible refine (left_any HS.out).mono ?_); rintro e w2 ⟨rfl, m, rfl⟩))
    | (go_at_call 75; go_must ((with_reducible refine (unlessT _ _ _).mono ?_); rintro e w' ⟨rfl, rfl⟩))
    | (go_at_call 117; go_must ((with_reducible refine (HSu.out _ (HS.out.drewN m)).mono ?_); rintro e w3 ⟨q, rfl, hq, hs1, hs2, hg2⟩; have HQ := Lib.hid hq; have HS1 := Lib.hid hs1; have HS2 := Lib.hid hs2; have HG2 := Lib.hid (gb_trans (gb_drewN HG.out m) hg2); clear hq hs1 hs2 hg2)))
  go_ret2
  exact ⟨q, rfl, Nat.le_trans HG.out.size HQ.out, HS1.out, HS2.out, HG2.out⟩

/-- What the closure of a Whole leaves behind: T, of a world that was there ahead of it. -/
def WRead (T : Nat → World → Prop) (q X : Nat) (part : List UInt8) (w : World) (e : Ending) (w' : World) : Prop :=
  e = .returned (.tuple #[]) ∧ T w.heap.size w' ∧ Sc w' q part part.length ∧ Gb2 w w' q X
theorem cfW1 (cap : Array Value) (w : World) : (callFunc 105 cap).run Tryz.prog w = .ok (.enter 105 cap) w := by kernel_rfl
set_option maxHeartbeats 2000000 in
/-- Whole's own closure: the reader, and the part's end. -/
theorem wclos_w {w : World} {R P q X : Nat} {part : List UInt8} {g : FuncId} {T : Nat → World → Prop} (hcf : ∀ (a : Array Value) (w : World), (callFunc g a).run Tryz.prog w = .ok (.enter g a) w)
    (hR : Whole w R 113 #[.func (.func g) #[] #[.pointer (some ⟨X, 0, none⟩)]]) (hP : Whole w P 36 #[.pointer (some ⟨q, 0, none⟩)]) (hPq : P ≠ q ∧ P ≠ X)
    (hT : ∀ B W m, T B W → T B (W.drewN m))
    (hread : Calls Tryz.prog g #[.pointer (some ⟨q, 0, none⟩), .pointer (some ⟨X, 0, none⟩)] w (WRead T q X part w)) :
    Calls Tryz.prog 105 #[.pointer (some ⟨R, 0, none⟩), .pointer (some ⟨P, 0, none⟩)] w (WRead T q X part w) := by
  have c0 := hR.cell 0
  have c1 := hP.cell 0
  simp only [List.getElem?_toArray, List.getElem?_cons_zero] at c0 c1
  have HP := Lib.hid hP
  have HT := Lib.hid hT
  have HH := Lib.hid hread
  clear hR hP hread hT
  go_enter Tryz.func105, Tryz.ntmps105
  go_wp2_with fail
  refine HH.out.mono ?_
  rintro e w1 ⟨rfl, ht, hs, hg⟩
  have c2 := (hg.whole HP.out hPq.1 hPq.2).cell 0
  simp only [List.getElem?_toArray, List.getElem?_cons_zero] at c2
  have HT1 := Lib.hid ht
  have HS1 := Lib.hid hs
  have HG1 := Lib.hid hg
  have HEn := Lib.hid (end_ok hs)
  clear ht hs hg c0 c1
  go_wp2_with (go_at_call 69; go_must ((with_reducible refine HEn.out.mono ?_); rintro e w2 ⟨rfl, m, rfl⟩))
  go_end0
  exact ⟨rfl, HT.out _ _ _ HT1.out, HS1.out.drewN m, HG1.out.trans (.left (gb_drewN (gb_refl _ _) m))⟩
set_option maxHeartbeats 4000000 in
/-- A part that is read to its end. -/
theorem whole_w {w : World} {p X : Nat} {l part : List UInt8} {k n k1 : Nat} (g : FuncId) (T : Nat → World → Prop) (h : Sc w p l k) (hi : indexR l k = .ok (n : Int) k1) (hm : k1 + n ≤ l.length) (hl : l.length ≤ 1000000)
    (hpt : (l.drop k1).take n = part) (hpX : p < X) (hX : X < w.heap.size)
    (hcf : ∀ (a : Array Value) (w : World), (callFunc g a).run Tryz.prog w = .ok (.enter g a) w)
    (hT : ∀ B W W' b, T B W → W.grownBy W' (some b) → w.heap.size ≤ b → b < B → T B W') (hTd : ∀ B W m, T B W → T B (W.drewN m))
    (hread : ∀ W q, w.grownBy W (some p) → w.heap.size ≤ q → Sc W q part 0 → Calls Tryz.prog g #[.pointer (some ⟨q, 0, none⟩), .pointer (some ⟨X, 0, none⟩)] W (WRead T q X part W)) :
    Calls Tryz.prog 70 #[.pointer (some ⟨p, 0, none⟩), .func (.func g) #[] #[.pointer (some ⟨X, 0, none⟩)]] w fun e w' =>
      e = .returned (.tuple #[]) ∧ (∃ B, w.heap.size ≤ B ∧ T B w') ∧ Sc w' p l (k1 + n) ∧ Gb2 w w' p X := by
  have hp := h.lt
  have HR0 := Lib.hid (Whole.made w 113 #[.func (.func g) #[] #[.pointer (some ⟨X, 0, none⟩)]])
  have hz0 : (w.alloc (.cells #[.func (.func g) #[] #[.pointer (some ⟨X, 0, none⟩)]] 113)).heap.size = w.heap.size + 1 := by simp
  have hPa := part_w (h.alloc (.cells #[.func (.func g) #[] #[.pointer (some ⟨X, 0, none⟩)]] 113)) hi hm
  unfold Parted at hPa
  rw [hpt] at hPa
  have HPa := Lib.hid hPa
  have HRd := Lib.hid hread
  have HT := Lib.hid hT
  have hk1 : k1 ≤ 1000000 := by omega
  have hpl : part.length ≤ 1000000 := by rw [← hpt, List.length_take, List.length_drop]; omega
  obtain ⟨kn, hkn⟩ : ∃ kn, kn = k1 + n := ⟨_, rfl⟩
  rw [← hkn] at HPa ⊢
  have HCF := Lib.hid hcf
  have G0 := Lib.hid (gb_alloc (gb_refl w (some p)) (.cells #[.func (.func g) #[] #[.pointer (some ⟨X, 0, none⟩)]] 113))
  clear h hi hm hl hpt hread hT hPa hkn hcf
  go_enter Tryz.func70, Tryz.ntmps70
  go_wp2_with (go_at_call 82; go_must ((with_reducible refine HPa.out.mono ?_); intro e w2 hq; obtain ⟨q, rfl, hq, hs1, hs2, hg⟩ := hq; have HQ := Lib.hid hq; have HS1 := Lib.hid hs1; have HS2 := Lib.hid hs2; have HR2 := Lib.hid (HR0.out.grown hg (by simp only [ne_eq, Option.some.injEq]; omega)); have HG2 := Lib.hid (gb_trans G0.out hg); clear hq hs1 hs2 hg))
  have hqz : q < w2.heap.size := HS1.out.lt
  have hqw : w.heap.size < q := by have := HQ.out; omega
  have hb1 := below_box w2 (.cells #[.pointer (some ⟨q, 0, none⟩)] 36)
  have HP3 := Lib.hid (Whole.made w2 36 #[.pointer (some ⟨q, 0, none⟩)])
  have HR3 := Lib.hid (HR2.out.below hb1)
  have HS13 := Lib.hid (HS1.out.below hb1)
  have HS23 := Lib.hid (HS2.out.below hb1)
  have HG3 := Lib.hid (gb_trans HG2.out (gb_of_below (some p) hb1))
  have hz3 : (w2.alloc (.cells #[.pointer (some ⟨q, 0, none⟩)] 36)).heap.size = w2.heap.size + 1 := by simp
  clear HPa HR2 HS1 HS2 HG2 hb1
  generalize w2.alloc (.cells #[.pointer (some ⟨q, 0, none⟩)] 36) = W at *
  have hbb := below_box W (.cells #[.int .i64 0, .int .i64 0] 39)
  have hz4 : (W.alloc (.cells #[.int .i64 0, .int .i64 0] 39)).heap.size = W.heap.size + 1 := by simp
  have HSt := Lib.hid (Whole.made W 39 #[.int .i64 0, .int .i64 0])
  have hcl := wclos_w (T := T) HCF.out (HR3.out.below hbb) (HP3.out.below hbb) ⟨by omega, by omega⟩ hTd (HRd.out _ q (gb_trans HG3.out (gb_of_below (some p) hbb)) (by omega) (HS13.out.below hbb))
  have hwi := within_any _ _ 0 0 k1 W (fun w1 => WRead T q X part (W.alloc (.cells #[.int .i64 0, .int .i64 0] 39)) (.returned (.tuple #[])) w1) (cfW1 _) (hcl.mono (by
    rintro e w1 ⟨rfl, h2⟩
    exact ⟨.inl ⟨rfl, rfl, rfl⟩, rfl, h2⟩)) (fun w1 ⟨_, _, _, hg⟩ => hg.whole HSt.out (by omega) (by omega)) (by omega) (by omega) (by omega) (by omega)
  refine hwi.mono ?_
  rintro e w3 ⟨he, w1, ⟨_, ht, hs, hg⟩, hg3⟩
  rcases he with ⟨_, _, rfl⟩ | ⟨h0, _⟩
  · go_wp2_with fail
    go_end0
    have hg4 := Gb2.before (.left (gb_trans HG3.out (gb_of_below (some p) hbb))) hg (by omega)
    refine ⟨rfl, ⟨_, by omega, HT.out _ _ _ W.heap.size ht hg3 (by omega) (by omega)⟩, ?_, hg4.new hg3 (by omega)⟩
    exact ((hg.sc (HS23.out.below hbb) (by omega) hpX)).grown hg3 (by simp only [ne_eq, Option.some.injEq]; omega) (fun g e => by injection e with e; omega)
  · exact absurd rfl h0
end Go.Proofs.YtebgmfjgapmpfabGreatDoor

/- wire.Part, bodies.getLocals, whole, Get: of bytes that were written. -/
namespace Go.Proofs.YtebgmfjgapmpfabGreatDoor
open Go.RowKit
set_option linter.unusedVariables false
set_option maxRecDepth 100000

/-- A row of groups of the call's own. -/
abbrev RowLo (W : World) (base : Nat) (v : Value) (rows : List Lo) : Prop := W.ownsRow base 71 2 v rows.length (rows.flatMap loL)
theorem RowLo.past {W W' : World} {base b : Nat} {v : Value} {rows : List Lo} (h : RowLo W base v rows) (hg : W.grownBy W' (some b)) (hb : b < base) : RowLo W' base v rows :=
  World.ownsRow.kept h hg (by
    cases hv : v.ownBlock with
    | none => exact .inl rfl
    | some k => exact .inr (by have := (World.ownsRow.lt h k hv).1; simp only [ne_eq, Option.some.injEq]; omega))
theorem RowLo.later {W W' : World} {base : Nat} {v : Value} {rows : List Lo} (h : RowLo W base v rows) (hb : Below W.heap.size W W') : RowLo W' base v rows :=
  World.ownsRow.kept h (gb_of_below none hb) (by cases v.ownBlock with
    | none => exact .inl rfl
    | some k => exact .inr (by simp))
theorem infoLo : (Tryz.prog.info? 71).map (fun i => (i.zero, i.size, i.bytes)) = some (some (.agg #[.int .u32 0, .int .u8 0]), 2, 8) := by kernel_rfl
theorem rowLo_new {w : World} {ops : Array Oper} {rest : List Oper} {o : Oper} {a : Act} {Q : Exit → Act → World → Prop} (hgd : o.guard = none) (s x : Operand)
    (ho : o.op = .call { callee := .builtin .append, args := #[s, x], argTypes := #[25, 25] })
    (B : Nat) (v : Value) (l : List Lo) (hs : a.eval s = v) (hr : RowLo w B v l) (g : Nat) (r : Lo) (hx : a.eval x = .slice (some ⟨g, 0, none⟩) 1 1)
    (hg : Whole w g 71 (loL r).toArray) (hb : l.length ≤ 10000) (hB : B ≤ w.heap.size)
    (h : ∀ v' w', RowLo w' B v' (l ++ [r]) → w.grownBy w' v.ownBlock → wpList Tryz.prog ops Q rest (a.put o.dst v') w') : wpList Tryz.prog ops Q (o :: rest) a w := by
  obtain ⟨i0, hi0, hz0, hz1, hz2⟩ := info_parts infoLo
  refine wpList_append_own _ hgd s x _ ho B 71 i0 _ 2 8 Tryz.underlying25 hi0 hz0 hz1 hz2 rfl (by omega) v _ _ hs hr ⟨g, 0, none⟩ 1 1 (loL r) hx rfl ?_ ?_ (by unfold maxLen; omega) (by omega) hB (fun v' w' h2 h3 _ => h v' w' ?_ h3)
  · intro j u hu
    rw [Go.WideShapes.add_plain, Nat.zero_add, hg.cell, ← Array.getElem?_toList]
    exact hu
  · intro u hu
    unfold loL at hu
    simp only [List.mem_cons, List.not_mem_nil, or_false] at hu
    rcases hu with rfl | rfl <;> rfl
  · show w'.ownsRow B 71 2 v' (l ++ [r]).length ((l ++ [r]).flatMap loL)
    rw [List.length_append, List.flatMap_append]
    simpa using h2
/-- Once it is read. -/
theorem RowLo.loc {W : World} {base : Nat} {v : Value} {rows : List Lo} (h : RowLo W base v rows) : ∃ A c, v = .slice A rows.length c ∧ LocT W A rows ∧ ∀ a, A = some a → base ≤ a.block := by
  rcases h.2 with ⟨rfl, h0⟩ | ⟨g, cap, cur, rfl, hb, hg, _, _, _, ht⟩
  · have hr : rows = [] := List.eq_nil_of_length_eq_zero h0
    subst hr
    exact ⟨none, 0, rfl, .inl ⟨rfl, rfl⟩, fun a e => by cases e⟩
  · exact ⟨_, cap, rfl, .inr ⟨g, cur, rfl, hg, ht⟩, fun a e => by injection e with e; subst e; exact hb⟩
theorem losL_at {l : List Lo} {k : Nat} {x : Lo} (h : l[k]? = some x) : losL l = losL (l.take k) ++ ((lebL x.n.toNat ++ [x.t]) ++ losL (l.drop (k + 1))) := by
  conv => lhs; rw [← List.take_append_drop k l, lo_drop h]
  unfold losL
  rw [List.flatMap_append, List.flatMap_cons]
theorem tyGo_mem : ∀ {l : List Lo}, tyGo l = 0 → ∀ x ∈ l, valueZ x.t.toNat = 0
  | [], _, x, hx => by cases hx
  | y :: l, h, x, hx => by
    unfold tyGo at h
    by_cases e : valueZ y.t.toNat = 0
    · rw [if_neg (by omega)] at h
      rcases List.mem_cons.1 hx with rfl | hx
      · exact e
      · exact tyGo_mem h x hx
    · rw [if_pos e] at h; exact absurd h e
/-- A group that was written. -/
theorem getLocal_ok {w : World} {p : Nat} {l r : List UInt8} {k : Nat} {x : Lo} (h : Sc w p l k) (hv : valueZ x.t.toNat = 0) (hd : l.drop k = lebL x.n.toNat ++ (x.t :: r)) :
    Calls Tryz.prog 73 #[.pointer (some ⟨p, 0, none⟩)] w fun e w' => e = .returned (.agg #[.int .u32 x.n.toNat, .int .u8 x.t.toNat]) ∧ Sc w' p l (k + (lebL (x.n.toNat : Int)).length + 1) ∧ w.grownBy w' (some p) := by
  have hp := h.lt
  have hxn := x.n.toNat_lt
  have hi := index_scan (h.alloc (.cells #[.int .u32 0, .int .u8 0] 71))
  rw [indexR_at hd (by omega) (by omega)] at hi
  have HI := Lib.hid hi
  have hd2 := drop_past hd
  have HV := Lib.hid (fun W (hs : Sc W p l (k + (lebL (x.n.toNat : Int)).length)) => show Calls Tryz.prog 107 #[.pointer (some ⟨p, 0, none⟩)] W (fun e w' => e = .returned (.int .u8 x.t.toNat) ∧ Sc w' p l (k + (lebL (x.n.toNat : Int)).length + 1) ∧ W.grownBy w' (some p)) from by have := val_scan hs; rw [valR_at hd2 hv] at this; exact this)
  have HW := Lib.hid (Whole.made w 71 #[.int .u32 0, .int .u8 0])
  obtain ⟨k1, hk1⟩ : ∃ k1, k1 = k + (lebL (x.n.toNat : Int)).length := ⟨_, rfl⟩
  rw [← hk1] at HI HV ⊢
  clear h hv hd hi hd2 hk1 hxn
  go_enter Tryz.func73, Tryz.ntmps73
  go_wp2_with (first
    | (go_at_call 106; go_must ((with_reducible refine HI.out.mono ?_); rintro e w2 ⟨rfl, hs, hg⟩; have HS2 := Lib.hid hs; have HG2 := Lib.hid (gb_trans (gb_alloc (gb_refl w _) _) hg); have HW2 := Lib.hid (HW.out.grown hg (by simp only [ne_eq, Option.some.injEq]; omega)); clear hs hg))
    | (go_at_call 107; go_must ((with_reducible refine (HV.out _ HS2.out).mono ?_); rintro e w3 ⟨rfl, hs, hg⟩; have HS3 := Lib.hid hs; have HG3 := Lib.hid (gb_trans HG2.out hg); have HW3 := Lib.hid (HW2.out.grown hg (by simp only [ne_eq, Option.some.injEq]; omega)); have k0 := HW3.out.cell 0; have k1' := HW3.out.cell 1; have f0 := HW3.out.frozen 0; have f1 := HW3.out.frozen 1; simp only [List.getElem?_toArray, List.getElem?_cons_zero, List.getElem?_cons_succ] at k0 k1'; clear hs hg)))
  obtain ⟨h1, h2⟩ := put2 (u0 := .int .u32 x.n.toNat) (u1 := .int .u8 x.t.toNat) HW3.out
  have q0 := h1.cell 0
  have q1 := h1.cell 1
  simp only [List.getElem?_toArray, List.getElem?_cons_zero, List.getElem?_cons_succ] at q0 q1
  exact bodyPost_ret (v := .agg #[.int .u32 x.n.toNat, .int .u8 x.t.toNat]) (by simp [results, Tryz.results73, go_sem, q0, q1]) rfl ⟨rfl, HS3.out.grown h2 (by simp only [ne_eq, Option.some.injEq]; omega) (fun g e => by injection e with e; omega), gb_before HG3.out h2 (fun g e => .inr (by injection e with e; omega))⟩
theorem cfGL (a : Array Value) (w : World) : (callFunc 73 a).run Tryz.prog w = .ok (.enter 73 a) w := by kernel_rfl
/-- What getLocals leaves behind. -/
def GotLo (p : Nat) (l : List UInt8) (ls : List Lo) (k : Nat) (w : World) (e : Ending) (w' : World) : Prop :=
  ∃ A c, e = .returned (.slice A ls.length c) ∧ (LocT w' A ls ∧ ∀ a, A = some a → w.heap.size ≤ a.block) ∧ Sc w' p l k ∧ w.grownBy w' (some p)
set_option maxHeartbeats 4000000 in
theorem getLocals_ok {w : World} {p : Nat} {l r : List UInt8} {k0 : Nat} {ls : List Lo} (h : Sc w p l k0) (hn : ls.length ≤ 10000) (hty : tyGo ls = 0) (hd : l.drop k0 = (lebL ls.length ++ losL ls) ++ r) :
    Calls Tryz.prog 72 #[.pointer (some ⟨p, 0, none⟩), .func (.func 73) #[] #[]] w (GotLo p l ls (k0 + (lebL ls.length ++ losL ls).length) w) := by
  have hp := h.lt
  have hd' := hd
  rw [List.append_assoc] at hd'
  have hc := count_scan h
  rw [countR_at hd' (by omega) (by omega)] at hc
  have HC := Lib.hid hc
  have HD := Lib.hid (drop_past hd')
  have HTY := Lib.hid (tyGo_mem hty)
  have HK : Hid (k0 + (lebL ls.length ++ losL ls).length = k0 + (lebL ls.length).length + (losL ls).length) := by show _ = _; rw [List.length_append]; omega
  rw [HK.out]
  obtain ⟨k1, hk1⟩ : ∃ k1, k1 = k0 + (lebL (ls.length : Int)).length := ⟨_, rfl⟩
  rw [← hk1] at HC HD ⊢
  obtain ⟨n, hnn⟩ : ∃ n, n = ls.length := ⟨_, rfl⟩
  have HNN := Lib.hid hnn
  rw [← hnn] at HC hn
  unfold GotLo
  rw [← hnn]
  clear h hd hd' hc hty HK hk1 hnn
  have hcf := cfGL
  go_enter Tryz.func72, Tryz.ntmps72
  go_wp2_with (go_at_call 102; go_must ((with_reducible refine HC.out.mono ?_); rintro e w1 ⟨rfl, hs, hg⟩; have HS := Lib.hid hs; have HG := Lib.hid hg; clear hs hg))
  go_loopw [5, 8] (fun v i wr => ∃ (k : Nat), k ≤ n ∧ i = .int .i64 k ∧ RowLo wr w.heap.size v (ls.take k) ∧ Sc wr p l (k1 + (losL (ls.take k)).length) ∧ w.grownBy wr (some p)) (fun _ i _ => n - (intOf i).toNat)
  case atStart => exact ⟨0, Nat.zero_le _, rfl, World.ownsRow_nil _ _ _ _, by simpa [losL] using HS.out, HG.out⟩
  case round =>
    obtain ⟨k, hk, rfl, hr, hs, hg⟩ := hrel
    by_cases hlt : k < n
    · obtain ⟨x, hx⟩ : ∃ x, ls[k]? = some x := ⟨_, List.getElem?_eq_getElem (by rw [← HNN.out]; exact hlt)⟩
      have hxn := x.n.toNat_lt
      have hvz := HTY.out x (List.mem_of_getElem? hx)
      have hd1 : l.drop (k1 + (losL (ls.take k)).length) = lebL x.n.toNat ++ (x.t :: (losL (ls.drop (k + 1)) ++ r)) := by
        refine drop_past (a := losL (ls.take k)) ?_
        rw [HD.out]
        conv => lhs; rw [losL_at hx]
        simp only [List.append_assoc, List.cons_append, List.nil_append]
      have HGL := Lib.hid (getLocal_ok hs hvz hd1)
      have HK2 : Hid (k1 + (losL (ls.take k)).length + (lebL (x.n.toNat : Int)).length + 1 = k1 + (losL (ls.take (k + 1))).length) := by
        show _ = _
        rw [losL_snoc hx, List.length_append, List.length_append, List.length_singleton]
        omega
      have HTK := Lib.hid (take_snocG hx)
      have hlk : (ls.take k).length = k := by rw [List.length_take, ← HNN.out]; omega
      have HLK := Lib.hid hlk
      have HR := Lib.hid hr
      have HG0 := Lib.hid hg
      obtain ⟨rows, hrows⟩ : ∃ rows, rows = ls.take k := ⟨_, rfl⟩
      obtain ⟨kb, hkb⟩ : ∃ kb, kb = k1 + (losL (ls.take k)).length + (lebL (x.n.toNat : Int)).length + 1 := ⟨_, rfl⟩
      rw [← hkb] at HGL HK2
      rw [← hrows] at HR HTK HLK
      have hgz := hg.size
      clear hx hr hs hg hd1 hvz hlk hrows hkb
      go_wp2_with (first
        | (go_at_call 73; go_must ((with_reducible refine HGL.out.mono ?_); rintro e w3 ⟨rfl, hs, hg⟩; have HS3 := Lib.hid hs; have HG3 := Lib.hid (gb_trans HG0.out hg); have HR3 := Lib.hid (RowLo.past HR.out hg hp); have hz3 := HG3.out.size; clear hs hg))
        | (at_builtin; (refine rowLo_new rfl _ _ rfl w.heap.size _ rows rfl (RowLo.later HR3.out (below_box w3 (.cells #[.int .u32 x.n.toNat, .int .u8 x.t.toNat] 71))) w3.heap.size x rfl (Whole.made w3 _ _) (by have := HLK.out; omega) (Nat.le_trans hz3 (below_box w3 _).size) ?_; intro v4 w4 hr4 hg4; have HR4 := Lib.hid hr4; have HG4 := Lib.hid hg4; clear hr4 hg4)))
      have hlt4 := World.ownsRow.lt HR3.out
      go_roundw
      case rel => exact ⟨k + 1, by omega, by go_num, by rw [HTK.out]; exact HR4.out, by rw [← HK2.out]; exact (HS3.out.alloc _).grown HG4.out (fun e => by have := hlt4 p e.symm; omega) (fun g e => by have := hlt4 g e; omega), gb_before (gb_alloc HG3.out _) HG4.out (fun g e => .inr (hlt4 g e).1)⟩
      case measure => simp [intOf]; omega
    · have hkn : k = ls.length := by rw [← HNN.out]; omega
      rw [hkn, List.take_length] at hr hs
      obtain ⟨A, c, rfl, hl⟩ := RowLo.loc hr
      rw [← HNN.out]
      have HL := Lib.hid hl
      have HS2 := Lib.hid hs
      have HG2 := Lib.hid hg
      clear hr hs hg hl hkn
      go_wp2
      go_ret
      exact ⟨A, c, rfl, HL.out, HS2.out, HG2.out⟩
end Go.Proofs.YtebgmfjgapmpfabGreatDoor

/- bodies.whole, Get, of bytes that were written. -/
namespace Go.Proofs.YtebgmfjgapmpfabGreatDoor
open Go.RowKit
set_option linter.unusedVariables false
set_option maxRecDepth 100000

theorem Gb2.tbp {w w' : World} {a b p : Nat} (h : TbP p w) (hg : Gb2 w w' a b) (h1 : p ≤ a) (h2 : p ≤ b) : TbP p w' := by
  obtain ⟨W0, t1, t2, t3⟩ := h
  exact ⟨W0, t1, t2, hg.os.trans t3.os, hg.tape.trans t3.tape, hg.output.trans t3.output, Nat.le_trans t3.size hg.size, fun i hi => (hg.block i (Nat.lt_of_lt_of_le hi t3.size) (by omega) (by omega)).trans (t3.block i hi)⟩
/-- The numbers are what their kinds hold; neither instructions nor groups nor labels are many. -/
structure BdOk (x : Bd) : Prop where
  ok : ∀ i ∈ x.b, i.Ok ∧ i.l.length ≤ 50
  h50 : x.ls.length ≤ 50
  h60 : x.b.length ≤ 60
theorem BdOk.ok100 {x : Bd} (h : BdOk x) : ∀ i ∈ x.b, i.Ok ∧ i.l.length ≤ 100 := fun i hi => ⟨(h.ok i hi).1, by have := (h.ok i hi).2; omega⟩
theorem putL_len50 {i : I} (h : i.Ok) (hl : i.l.length ≤ 50) : (putL i).length ≤ 600 := by
  obtain ⟨a0, a1, b0, b1, hl0⟩ := h
  have k1 := lebL_len i.a (by omega)
  have k2 := lebL_len i.b (by omega)
  have k3 := lebL_len (i.l.length : Int) (by omega)
  have k4 := labsL_len i.l hl0
  have k5 := sebL_len (s32 i.a) (by unfold s32; omega) (by unfold s32; omega)
  have k6 := sebL_len (s64 i.a) (by unfold s64; omega) (by unfold s64; omega)
  have key : (immL i).length ≤ 550 := by
    unfold immL immB labL
    repeat' split
    all_goals (try simp only [List.length_append, List.length_cons, List.length_nil])
    all_goals omega
  unfold putL
  rw [List.length_cons]
  omega
theorem bodyL_len50 : ∀ l : List I, (∀ i ∈ l, i.Ok ∧ i.l.length ≤ 50) → (bodyL l).length ≤ l.length * 600
  | [], _ => by simp [bodyL]
  | i :: r, h => by
    have h1 := bodyL_len50 r (fun j hj => h j (List.mem_cons_of_mem _ hj))
    have h2 := putL_len50 (h i (by simp)).1 (h i (by simp)).2
    unfold bodyL at h1 ⊢
    rw [List.flatMap_cons, List.length_append, List.length_cons]
    omega
theorem codeL_len {x : Bd} (h : BdOk x) : (codeL x).length ≤ 36600 := by
  have h1 := lebL_len (x.ls.length : Int) (by have := h.h50; omega)
  have h2 := losL_len x.ls
  have h3 := bodyL_len50 x.b h.ok
  have h4 := h.h50
  have h5 := h.h60
  have hb : (bputL x).length ≤ 36570 := by unfold bputL; rw [List.length_append, List.length_append]; omega
  have h6 := lebL_len ((bputL x).length : Int) (by omega)
  unfold codeL
  rw [List.length_append]
  omega
theorem brZ_zero {x : Bd} (h : brZ x = 0) : (∃ q : Nat, locGo 0 x.ls = (q : Int)) ∧ tyGo x.ls = 0 ∧ shapeGo [] (opsOf x.b) = true ∧ ∀ i ∈ x.b, rightZ i = 0 := by
  have hb : bshZ x = 0 := by
    unfold brZ at h
    by_cases e : bshZ x = 0
    · exact e
    · rw [if_pos e] at h; exact absurd h e
  have hc := brZ_code hb
  rw [h] at hc
  unfold bshZ at hb
  by_cases h1 : locGo 0 x.ls < 0
  · rw [if_pos h1] at hb; omega
  · rw [if_neg h1] at hb
    by_cases h2 : tyGo x.ls = 0
    · rw [if_neg (by omega)] at hb
      have h3 : shapeGo [] (opsOf x.b) = true := by
        unfold shapeZ at hb
        by_cases e : shapeGo [] (opsOf x.b) = true
        · exact e
        · rw [if_neg e] at hb; omega
      refine ⟨⟨(locGo 0 x.ls).toNat, by omega⟩, h2, h3, errZ_all ?_⟩
      unfold codeZ at hc
      rw [if_pos hb] at hc
      omega
    · rw [if_pos h2] at hb; exact absurd hb h2
/-- What reading a body leaves behind. -/
def GotBd (p : Nat) (l : List UInt8) (x : Bd) (k : Nat) (w : World) (e : Ending) (w' : World) : Prop :=
  ∃ s : SlotBd, s.1 = x ∧ e = .returned (cV s) ∧ HasBd w' w.heap.size s ∧ Sc w' p l k ∧ w.grownBy w' (some p)
/-- What Get's closure leaves behind. -/
def TBd (X : Nat) (x : Bd) (B : Nat) (W : World) : Prop := ∃ s : SlotBd, s.1 = x ∧ HasBd W B s ∧ Whole W X 28 (cC s)
theorem no8_2 {A B : Option Addr} {n c m d : Nat} (i : Nat) (k : Int) : (#[Value.slice A n c, Value.slice B m d] : Array Value)[i]? ≠ some (.int .u8 k) := by
  match i with
  | 0 | 1 => simp
  | i + 2 => simp
set_option maxHeartbeats 4000000 in
theorem gclos_ok {w : World} {p q X : Nat} {x : Bd} (hX : Whole w X 28 bdZ) (h : Sc w q (bputL x) 0) (hT : TbP p w) (hpq : p < q) (hpX : p < X) (hne : X ≠ q) (hr : brZ x = 0) (ho : BdOk x) :
    Calls Tryz.prog 71 #[.pointer (some ⟨q, 0, none⟩), .pointer (some ⟨X, 0, none⟩)] w (WRead (TBd X x) q X (bputL x) w) := by
  have hq := h.lt
  have hXl := hX.lt
  have h50 := ho.h50
  have h60 := ho.h60
  obtain ⟨⟨n, f1⟩, f2, f3, f4⟩ := brZ_zero hr
  have hd0 : (bputL x).drop 0 = (lebL x.ls.length ++ losL x.ls) ++ (bodyL x.b ++ []) := by rw [List.append_nil]; rfl
  have hlo := getLocals_ok h (by omega) f2 hd0
  have hd1 := drop_past hd0
  have hk : 0 + (lebL (x.ls.length : Int) ++ losL x.ls).length + (bodyL x.b).length = (bputL x).length := by unfold bputL; simp only [List.length_append]; omega
  obtain ⟨k1, hk1⟩ : ∃ k1, k1 = 0 + (lebL (x.ls.length : Int) ++ losL x.ls).length := ⟨_, rfl⟩
  rw [← hk1] at hlo hd1 hk
  have HLo := Lib.hid hlo
  have HCn := Lib.hid (fun W A c (hl : Los W A x.ls) => show Calls Tryz.prog 74 #[.slice A x.ls.length c] W fun e w' => e = .returned (.tuple #[.int .i64 n, .int .i64 0]) ∧ Below W.heap.size W w' from by have := cnt_any (c := c) hl (by omega); rw [(cnt_yes f1).1, (cnt_yes f1).2] at this; exact this)
  have HGB := Lib.hid (fun W (hs : Sc W q (bputL x) k1) (ht : TbP p W) => show Calls Tryz.prog 76 #[.pointer (some ⟨q, 0, none⟩)] W (GotB q (bputL x) x.b (bputL x).length W) from by
    have ht2 : TbP q W := by obtain ⟨W0, t1, t2, t3⟩ := ht; exact ⟨W0, t1, by omega, t3⟩
    have := getBody_ok (r := []) (fun i hi => ⟨(ho.ok i hi).1, f4 i hi⟩) f3 (by omega) hs ht2 hd1; rw [hk] at this; exact this)
  obtain ⟨L, hL⟩ : ∃ L, L = bputL x := ⟨_, rfl⟩
  rw [← hL] at HLo HGB ⊢
  have HX0 := Lib.hid hX
  have HT0 := Lib.hid hT
  clear h hT hr ho f1 f2 f3 f4 hd0 hlo hd1 hk hk1 hL hX
  go_enter Tryz.func71, Tryz.ntmps71
  go_wp2_with (first
    | (go_at_call 72; go_must ((with_reducible refine HLo.out.mono ?_); intro e w1 hq2; obtain ⟨A, c, rfl, hl, hs, hg⟩ := hq2; have hx1 := HX0.out.grown hg (by simp only [ne_eq, Option.some.injEq]; exact hne); have g1 : w1.grownBy (w1.setCell ⟨X, 0, none⟩ (.slice A x.ls.length c)) (some X) := gb_put (p := ⟨X, 0, none⟩) (gb_refl _ _) (.inl rfl) _; have HL1 := Lib.hid hl; have HLk := Lib.hid (hl.1.keep g1 (fun a ha => by have := hl.2 a ha; simp only [ne_eq, Option.some.injEq]; omega)); have HX1 := Lib.hid (show Whole (w1.setCell ⟨X, 0, none⟩ (.slice A x.ls.length c)) X 28 #[.slice A x.ls.length c, .slice none 0 0] from hx1.put 0 _); have HS1 := Lib.hid (hs.box hx1 hne (fun i k => no8_2 i k) g1); have HG1 := Lib.hid ((Gb2.left (b := X) hg).trans (.right g1)); have HT1 := Lib.hid (Gb2.tbp HT0.out HG1.out (Nat.le_of_lt hpq) (Nat.le_of_lt hpX)); have k0 := hx1.cell 0; have f0 := hx1.frozen 0; have k0' := HX1.out.cell 0; simp only [List.getElem?_toArray, List.getElem?_cons_zero] at k0 k0'; clear hl hs hg hx1 g1))
    | (go_at_call 74; go_must ((with_reducible refine (HCn.out _ _ _ HLk.out.los).mono ?_); rintro e w2 ⟨rfl, hb⟩; have HX2 := Lib.hid (HX1.out.below hb); have HL2 := Lib.hid (HLk.out.on hb); have HS2 := Lib.hid (HS1.out.below hb); have HG2 := Lib.hid (HG1.out.trans (.of_below hb)); have HT2 := Lib.hid (HT1.out.grown (gb_of_below none hb) (fun g e => by cases e)); clear hb))
    | (go_at_call 75; go_must ((with_reducible refine (unlessT _ _ _).mono ?_); rintro e w' ⟨rfl, rfl⟩))
    | (go_at_call 76; go_must ((with_reducible refine (HGB.out _ HS2.out HT2.out).mono ?_); intro e w3 hq2; obtain ⟨B, d, rows, rfl, hrow, hm, hs, hg⟩ := hq2; have hx3 := HX2.out.grown hg (by simp only [ne_eq, Option.some.injEq]; exact hne); have k1 := hx3.cell 1; have f1 := hx3.frozen 1; simp only [List.getElem?_toArray, List.getElem?_cons_zero, List.getElem?_cons_succ] at k1; have HX3 := Lib.hid hx3; have HL3 := Lib.hid (HL2.out.keep hg (fun a ha => by have := HL1.out.2 a ha; simp only [ne_eq, Option.some.injEq]; omega)); have HRW := Lib.hid hrow; have HM := Lib.hid hm; have HS3 := Lib.hid hs; have HG3 := Lib.hid (HG2.out.trans (.left hg)); have hz3 := HG2.out.size; clear hrow hm hs hg hx3)))
  have g4 : w3.grownBy (w3.setCell ⟨X, 1, none⟩ (.slice B x.b.length d)) (some X) := gb_put (p := ⟨X, 1, none⟩) (gb_refl _ _) (.inl rfl) _
  have hhas : HasBd w3 w.heap.size (x, (A, c), (B, d)) := ⟨⟨HL3.out, fun a ha => HL1.out.2 a ha⟩, rows, HRW.out.mono hz3, HM.out⟩
  go_end0
  exact ⟨rfl, ⟨(x, (A, c), (B, d)), rfl, hhas.past g4 hXl, HX3.out.put 1 _⟩, HS3.out.box HX3.out hne (fun i k => no8_2 i k) g4, HG3.out.trans (.right g4)⟩
theorem cfGB (a : Array Value) (w : World) : (callFunc 71 a).run Tryz.prog w = .ok (.enter 71 a) w := by kernel_rfl
set_option maxHeartbeats 4000000 in
theorem get_bd {w : World} {p : Nat} {l r : List UInt8} {k : Nat} {x : Bd} (h : Sc w p l k) (hT : TbP p w) (hr : brZ x = 0) (ho : BdOk x) (hl : l.length ≤ 1000000) (hd : l.drop k = codeL x ++ r) :
    Calls Tryz.prog 38 #[.pointer (some ⟨p, 0, none⟩)] w (GotBd p l x (k + (codeL x).length) w) := by
  have hp := h.lt
  have hcl := codeL_len ho
  have hbl : (codeL x).length = (lebL ((bputL x).length : Int)).length + (bputL x).length := by unfold codeL; rw [List.length_append]
  have hd1 : l.drop k = lebL ((bputL x).length : Int) ++ (bputL x ++ r) := by rw [hd]; unfold codeL; rw [List.append_assoc]
  have hi := indexR_at hd1 (by omega) (by omega)
  have hd2 := drop_past hd1
  obtain ⟨k1, hk1⟩ : ∃ k1, k1 = k + (lebL ((bputL x).length : Int)).length := ⟨_, rfl⟩
  rw [← hk1] at hi hd2
  have hkk : k + (codeL x).length = k1 + (bputL x).length := by omega
  have hm : k1 + (bputL x).length ≤ l.length := by
    have h1 := congrArg List.length hd2
    rw [List.length_drop, List.length_append] at h1
    have h2 : k1 ≤ l.length := by
      have h3 := congrArg List.length hd1
      rw [List.length_drop, List.length_append, List.length_append] at h3
      have h4 := h.le.1
      omega
    omega
  have hpt : (l.drop k1).take (bputL x).length = bputL x := by rw [hd2, List.take_left]
  have hb0 := below_box w (.cells bdZ 28)
  have hb1 := below_box (w.alloc (.cells bdZ 28)) (.cells bdZ 28)
  have z0 : (w.alloc (.cells bdZ 28)).heap.size = w.heap.size + 1 := by simp
  have z1 : ((w.alloc (.cells bdZ 28)).alloc (.cells bdZ 28)).heap.size = w.heap.size + 2 := by simp
  have hXw := Whole.made (w.alloc (.cells bdZ 28)) 28 bdZ
  rw [z0] at hXw
  have HR0 := Lib.hid ((Whole.made w 28 bdZ).below hb1)
  have hT2 := (hT.below hb0 (Nat.le_of_lt hp)).below hb1 (by omega)
  have HWh := Lib.hid (whole_w (X := w.heap.size + 1) (part := bputL x) 71 (TBd (w.heap.size + 1) x) ((h.below hb0).below hb1) hi hm hl hpt (by omega) (by omega) cfGB
    (fun B W W' b ⟨s, a0, a1, a2⟩ a3 a4 a5 => ⟨s, a0, a1.past a3 a5, Whole.grown a2 a3 (by simp only [ne_eq, Option.some.injEq]; omega)⟩) (fun B W m ⟨s, a0, a1, a2⟩ => ⟨s, a0, a1.later (below_drewN (Below.refl _ _) m), a2⟩)
    (fun W q a1 a2 a3 => gclos_ok (hXw.grown a1 (by simp only [ne_eq, Option.some.injEq]; omega)) a3 (hT2.self a1) (by omega) (by omega) (by omega) hr ho))
  rw [hkk]
  have hgw := gb_trans (gb_of_below (some p) hb0) (gb_trans (gb_of_below (some p) hb1) (gb_refl _ _))
  have HGW := Lib.hid hgw
  clear h hT hr ho hd hcl hbl hd1 hi hd2 hk1 hkk hm hpt hb0 hb1 hXw hT2 hl hgw
  obtain ⟨kn, hkn⟩ : ∃ kn, kn = k1 + (bputL x).length := ⟨_, rfl⟩
  rw [← hkn] at HWh ⊢
  clear hkn
  go_enter Tryz.func38, Tryz.ntmps38
  go_wp2_with (go_at_call 70; go_must ((with_reducible refine HWh.out.mono ?_); intro e w3 hq; obtain ⟨rfl, ⟨Bs, hB, ⟨⟨y, ⟨A, c⟩, ⟨B, d⟩⟩, hyx, hh, hx⟩⟩, hs, hg⟩ := hq; obtain rfl : y = x := hyx; have hr3 := hg.whole HR0.out (by omega) (by omega); have HR3 := Lib.hid hr3; have HH3 := Lib.hid hh; have HS3 := Lib.hid hs; have HG3 := Lib.hid ((Gb2.trans (.left HGW.out) hg).gb (by omega)); have hBs : w.heap.size + 2 ≤ Bs := (by rw [z1] at hB; exact hB); have x0 := hx.cell 0; have x1 := hx.cell 1; have r0 := hr3.cell 0; have r1 := hr3.cell 1; have f0 := hr3.frozen 0; have f1 := hr3.frozen 1; simp only [List.getElem?_toArray, List.getElem?_cons_zero, List.getElem?_cons_succ] at x0 x1 r0 r1; clear hh hx hs hg hr3 hB))
  obtain ⟨h1, h2⟩ := put2 (u0 := .slice A y.ls.length c) (u1 := .slice B y.b.length d) HR3.out
  have q0 := h1.cell 0
  have q1 := h1.cell 1
  simp only [List.getElem?_toArray, List.getElem?_cons_zero, List.getElem?_cons_succ] at q0 q1
  exact bodyPost_ret (v := bdV y A c B d) (by simp [results, Tryz.results38, go_sem, q0, q1]) rfl ⟨(y, (A, c), (B, d)), rfl, rfl, (HH3.out.past h2 (by omega)).mono (by omega), HS3.out.grown h2 (by simp only [ne_eq, Option.some.injEq]; omega) (fun g e => by injection e with e; omega), gb_before HG3.out h2 (fun g e => .inr (by injection e with e; omega))⟩
end Go.Proofs.YtebgmfjgapmpfabGreatDoor
