/- Lists of global types and of values in memory; values in a row of the call's own. -/
import Derived.Test.YtebgmfjgapmpfaaDoorQg07
import Derived.Test.YtebgmfjgapmpfaaDoorQg08
import Derived.OwnWalk
import Derived.Laws.AppendOwn
import Derived.Test.YtebgmfjgapmpfaaDoorQg09
import Derived.ProofKit
import Derived.OpenShut
import Derived.Deep.SlicePairs
import Derived.Test.YtebgmfjgapmpfaaDoorQg03
import Derived.Test.YtebgmfjgapmpfaaDoorQg11
import Derived.Test.YtebgmfjgapmpfaaDoorQg12
import Derived.Test.YtebgmfjgapmpfaaDoorQg01
import Derived.Test.YtebgmfjgapmpfaaDoorQg04
import Derived.Test.YtebgmfjgapmpfaaDoorQg06
import Derived.Test.YtebgmfjgapmpfaaDoorQg10
import Derived.Test.YtebgmfjgapmpfaaDoorQg02
import Derived.Deep.LoopGhost
namespace Go.Proofs.YtebgmfjgapmpfaaDoor
open Go.RowKit
set_option linter.unusedVariables false
set_option maxRecDepth 100000

def boolOf : Value → Bool
  | .bool b => b
  | _ => false
/-- A list of global types. -/
def LiesG (w : World) (A : Option Addr) (l : List (Int × Bool)) : Prop :=
  ∀ i t m, l[i]? = some (t, m) → ∃ b off, A = some ⟨b, off, none⟩ ∧ b < w.heap.size ∧ w.cell? ⟨b, off + i * 2, none⟩ = some (.int .u8 t) ∧ w.cell? ⟨b, off + i * 2 + 1, none⟩ = some (.bool m)
theorem LiesG.below {w w' : World} {A : Option Addr} {l : List (Int × Bool)} (h : LiesG w A l) (hb : Below w.heap.size w w') : LiesG w' A l := fun i t m hi => by
  obtain ⟨b, off, e, h1, h2, h3⟩ := h i t m hi
  exact ⟨b, off, e, Nat.lt_of_lt_of_le h1 hb.size, (hb.cell (p := ⟨b, off + i * 2, none⟩) (by show b < _; omega)).trans h2, (hb.cell (p := ⟨b, off + i * 2 + 1, none⟩) (by show b < _; omega)).trans h3⟩
/-- A list of values. -/
def LiesP (w : World) (A : Option Addr) (l : List (Int × Int)) : Prop :=
  ∀ i t n, l[i]? = some (t, n) → ∃ b off, A = some ⟨b, off, none⟩ ∧ b < w.heap.size ∧ w.cell? ⟨b, off + i * 2, none⟩ = some (.int .u8 t) ∧ w.cell? ⟨b, off + i * 2 + 1, none⟩ = some (.int .u64 n)
theorem LiesP.below {w w' : World} {A : Option Addr} {l : List (Int × Int)} (h : LiesP w A l) (hb : Below w.heap.size w w') : LiesP w' A l := fun i t m hi => by
  obtain ⟨b, off, e, h1, h2, h3⟩ := h i t m hi
  exact ⟨b, off, e, Nat.lt_of_lt_of_le h1 hb.size, (hb.cell (p := ⟨b, off + i * 2, none⟩) (by show b < _; omega)).trans h2, (hb.cell (p := ⟨b, off + i * 2 + 1, none⟩) (by show b < _; omega)).trans h3⟩
theorem LiesP.nil (w : World) : LiesP w none [] := fun i t n h => by cases h

theorem infoVal : (Tryd.prog.info? 65).map (fun i => (i.zero, i.size, i.bytes)) = some (some (.agg #[.int .u8 0, .int .u64 0]), 2, 16) := by kernel_rfl
def valC (x : Int × Int) : List Value := [.int .u8 x.1, .int .u64 x.2]
/-- Values in a row of the call's own. -/
def RowV (W : World) (base : Nat) (v : Value) (l : List (Int × Int)) : Prop := W.ownsRow base 65 2 v l.length (l.flatMap valC)
theorem RowV.nil (w : World) (base : Nat) : RowV w base (.slice none 0 0) [] := World.ownsRow_nil w base _ 2
theorem RowV.later {w w' : World} {base : Nat} {v : Value} {l : List (Int × Int)} (h : RowV w base v l) (hb : Below w.heap.size w w') : RowV w' base v l :=
  World.ownsRow.kept h (gb_of_below none hb) (by cases v.ownBlock with
    | none => exact .inl rfl
    | some k => exact .inr (by simp))
theorem RowV.alloc {w : World} {base : Nat} {v : Value} {l : List (Int × Int)} (h : RowV w base v l) (o : Obj) : RowV (w.alloc o) base v l := World.ownsRow.alloc h o
theorem flatV_get : ∀ (l : List (Int × Int)) (j : Nat) (x : Int × Int) (u : Nat), l[j]? = some x → u < 2 → (l.flatMap valC)[j * 2 + u]? = (valC x)[u]?
  | [], j, x, u, h, _ => by cases h
  | y :: l, 0, x, u, h, hu => by
    injection h with h
    subst h
    rw [List.flatMap_cons, Nat.zero_mul, Nat.zero_add, List.getElem?_append_left (by show u < 2; exact hu)]
  | y :: l, j + 1, x, u, h, hu => by
    rw [List.flatMap_cons, List.getElem?_append_right (by show 2 ≤ _; omega)]
    have e : (j + 1) * 2 + u - (valC y).length = j * 2 + u := by show (j + 1) * 2 + u - 2 = _; omega
    rw [e]
    exact flatV_get l j x u h hu
/-- What such a row reads as. -/
theorem RowV.lies {W : World} {base : Nat} {v : Value} {l : List (Int × Int)} (h : RowV W base v l) : ∃ A c, v = .slice A l.length c ∧ LiesP W A l := by
  rcases h.2 with ⟨rfl, h0⟩ | ⟨g, cap, cur, rfl, hb, hg, _, _, _, ht⟩
  · have : l = [] := List.eq_nil_of_length_eq_zero h0
    subst this
    exact ⟨none, 0, rfl, fun i t n h => by cases h⟩
  · refine ⟨some ⟨g, 0, none⟩, cap, rfl, fun j t n hj => ?_⟩
    have hjl := (List.getElem?_eq_some_iff.1 hj).1
    have key : ∀ u, u < 2 → W.cell? ⟨g, 0 + j * 2 + u, none⟩ = (valC (t, n))[u]? := fun u hu => by
      rw [cell_of_row W g (0 + j * 2 + u) cur _ _ hg, ← flatV_get l j _ u hj hu, ← ht, List.getElem?_take, if_pos (by omega)]
      simp
    exact ⟨g, 0, rfl, (show Whole W g 65 cur from hg).lt, key 0 (by omega), key 1 (by omega)⟩
/-- append of a new block of one value. -/
theorem rowsV_new {w : World} {ops : Array Oper} {rest : List Oper} {o : Oper} {a : Act} {Q : Exit → Act → World → Prop} (hgd : o.guard = none) (s x : Operand)
    (ho : o.op = .call { callee := .builtin .append, args := #[s, x], argTypes := #[66, 66] })
    (B : Nat) (v : Value) (l : List (Int × Int)) (hs : a.eval s = v) (hr : RowV w B v l) (g : Nat) (r : Int × Int) (hx : a.eval x = .slice (some ⟨g, 0, none⟩) 1 1)
    (hg : Whole w g 65 #[.int .u8 r.1, .int .u64 r.2]) (hb : l.length ≤ 1000) (hB : B ≤ w.heap.size)
    (h : ∀ v' w', RowV w' B v' (l ++ [r]) → Below B w w' → wpList Tryd.prog ops Q rest (a.put o.dst v') w') : wpList Tryd.prog ops Q (o :: rest) a w := by
  obtain ⟨i0, hi0, hz0, hz1, hz2⟩ := info_parts infoVal
  refine wpList_append_own _ hgd s x _ ho B 65 i0 _ 2 16 Tryd.underlying66 hi0 hz0 hz1 hz2 rfl (by omega) v _ _ hs hr ⟨g, 0, none⟩ 1 1 (valC r) hx rfl ?_ ?_ (by unfold maxLen; omega) (by omega) hB (fun v' w' h2 h3 _ => h v' w' ?_ ?_)
  · intro j u hu
    rw [Go.WideShapes.add_plain, Nat.zero_add, hg.cell]
    unfold valC at hu
    simpa using hu
  · intro u hu
    unfold valC at hu
    simp only [List.mem_cons, List.not_mem_nil, or_false] at hu
    rcases hu with rfl | rfl <;> rfl
  · unfold RowV
    rw [List.length_append, List.flatMap_append]
    simpa using h2
  · exact Below.grown (Below.refl _ _) h3 hB (fun k hk => (World.ownsRow.lt hr k hk).1)
end Go.Proofs.YtebgmfjgapmpfaaDoor

/- A list of global types, a value: opened. -/
namespace Go.Proofs.YtebgmfjgapmpfaaDoor
open Go.ChangeShapes Go.WideShapes Go.ChangeAt Go.RowKit Go.Joins
set_option linter.unusedVariables false
set_option maxRecDepth 100000

theorem wf8 {a : Int} (h : (Lit.int .u8 a).wf = true) : 0 ≤ a ∧ a ≤ 255 := by simpa [Lit.wf, IntKind.min, IntKind.max, IntKind.signed, IntKind.bits] using h
theorem wf32 {a : Int} (h : (Lit.int .u32 a).wf = true) : 0 ≤ a ∧ a ≤ 4294967295 := by simpa [Lit.wf, IntKind.min, IntKind.max, IntKind.signed, IntKind.bits] using h
theorem wf64 {a : Int} (h : (Lit.int .u64 a).wf = true) : 0 ≤ a ∧ a ≤ 18446744073709551615 := by simpa [Lit.wf, IntKind.min, IntKind.max, IntKind.signed, IntKind.bits] using h
theorem open_v {H : Type} {enc : TypeId × Value → H} {w : World} {base b0 : Nat} {r : Reach} {sp : Nat → Bool} {held : Bool} {v : Value} {d : DataW H} {p : List MemPlace} (hv : Value.okWide Tryd.prog w r b0 65 v)
    (h : DataW.Trod enc Tryd.prog w base sp held 65 v d p) : ∃ (t n : Int), v = .agg #[.int .u8 t, .int .u64 n] ∧ (0 ≤ t ∧ t ≤ 255) ∧ 0 ≤ n ∧ n ≤ 18446744073709551615 := by
  obtain ⟨v0, v1, y0, y1, n, rfl, _, _, h0, h1⟩ := open_agg2 Tryd.underlying65 (by kernel_rfl) (by kernel_rfl) hv h
  obtain ⟨x, hx, _, wx⟩ := DataW.trod_int Tryd.underlying5 h0
  obtain ⟨y, hy, _, wy⟩ := DataW.trod_int Tryd.underlying22 h1
  simp only [List.cons.injEq, and_true] at hx hy
  subst hx; subst hy
  exact ⟨x, y, rfl, wf8 wx, wf64 wy⟩
theorem open_bytesC {H : Type} {enc : TypeId × Value → H} {W : World} {sp : Nat → Bool} {A : Option Addr} {len cap : Nat} {d : DataW H} {p : List MemPlace} (h : DataW.Trod enc Tryd.prog W 0 sp true 26 (.slice A len cap) d p) :
    ∃ l : List UInt8, l.length = len ∧ Lies W W.heap.size A (cells (nums l)) ∧ (A = none → cap = 0) ∧ len ≤ cap ∧ cap ≤ maxLen := by
  obtain ⟨fuel, hf⟩ := h
  rcases open_ints Tryd.underlying26 Tryd.underlying5 cellsB hf with ⟨hcs, _⟩ | ⟨a, l, c, zs, hcs, _, hl, hm, hz, _, hcell, hwf⟩
  · simp [Value.cells] at hcs
    obtain ⟨rfl, rfl, rfl⟩ := hcs
    exact ⟨[], rfl, Lies.nil, fun _ => rfl, Nat.le_refl _, Nat.zero_le _⟩
  · simp [Value.cells] at hcs
    obtain ⟨rfl, rfl, rfl⟩ := hcs
    have hle : len ≤ zs.length := by rw [hz]; split <;> omega
    have hlen : (zs.take len).length = len := by rw [List.length_take]; omega
    obtain ⟨bs, hbs⟩ := nums_ex (zs.take len) (fun d hd => by
      have w0 := hwf d (List.mem_of_mem_take hd)
      simpa [Lit.wf, IntKind.min, IntKind.max, IntKind.signed, IntKind.bits] using w0)
    have hbl : bs.length = len := by rw [← nums_length, hbs, hlen]
    refine ⟨bs, hbl, ?_, (fun e => by cases e), by omega, hm⟩
    rw [hbs]
    exact ints_lie hle hcell
theorem cG : Tryd.prog.cellsOf 68 = 2 := by kernel_rfl
theorem cGb : Tryd.prog.cellsOf 4 = 1 := by kernel_rfl
theorem open_gs {H : Type} {enc : TypeId × Value → H} {W : World} {sp : Nat → Bool} {A : Option Addr} {len cap : Nat} {d : DataW H} {p : List MemPlace}
    (h : DataW.Trod enc Tryd.prog W 0 sp true 63 (.slice A len cap) d p) : ∃ l : List (Int × Bool), l.length = len ∧ (∀ q ∈ l, 0 ≤ q.1 ∧ q.1 ≤ 255) ∧ LiesG W A l ∧ len ≤ cap ∧ (l.length : Int) ≤ 9223372036854775807 := by
  obtain ⟨fuel, hf⟩ := h
  rcases Go.Deep.open_slice_pairs Tryd.underlying63 Tryd.underlying68 cG rfl rfl cellsB cGb hf with ⟨hcs, _⟩ | ⟨a, ln, cp, m, n, V0, V1, D0, D1, P0, P1, hcs, _, hlc, hcm, hm, _, hx⟩
  · simp [Value.cells] at hcs
    obtain ⟨rfl, rfl, rfl⟩ := hcs
    exact ⟨[], rfl, fun _ h => by simp at h, fun i t n h => by simp at h, Nat.le_refl _, by simp⟩
  · simp [Value.cells] at hcs
    obtain ⟨rfl, rfl, rfl⟩ := hcs
    have hlm : len ≤ m := by rw [hm]; split <;> omega
    have each : ∀ i, i < len → ∃ t b, V0 i = .int .u8 t ∧ V1 i = .bool b ∧ (0 ≤ t ∧ t ≤ 255) := by
      intro i hi
      obtain ⟨_, _, h0, h1⟩ := hx i (by omega)
      obtain ⟨t, ht, _, wt⟩ := DataW.trod_int Tryd.underlying5 h0
      obtain ⟨k, hk, _⟩ := DataW.trod_bool Tryd.underlying4 h1
      simp only [List.cons.injEq, and_true] at ht hk
      exact ⟨t, k, ht, hk, wf8 wt⟩
    refine ⟨(List.range len).map fun i => (intOf (V0 i), boolOf (V1 i)), by simp, ?_, ?_, hlc, ?_⟩
    · intro q hq
      obtain ⟨i, hi, rfl⟩ := List.mem_map.1 hq
      obtain ⟨t, k, e0, e1, wt⟩ := each i (List.mem_range.1 hi)
      rw [e0, e1]
      exact wt
    · intro i t k hi
      have hil : i < len := by
        have := (List.getElem?_eq_some_iff.1 hi).1
        simpa using this
      obtain ⟨t', k', e0, e1, _⟩ := each i hil
      obtain ⟨c0, c1, _, _⟩ := hx i (by omega)
      rw [e0] at c0
      rw [e1] at c1
      simp only [List.getElem?_map, List.getElem?_range hil, Option.map_some, Option.some.injEq, Prod.mk.injEq, e0, e1, intOf, boolOf] at hi
      obtain ⟨rfl, rfl⟩ := hi
      obtain ⟨b, off, spot⟩ := a
      have hsp : spot = none := by
        have := World.cell?_spot (hx 0 (by omega)).1
        simpa [Addr.add] using this
      subst hsp
      rw [Go.WideShapes.add_plain] at c0 c1
      exact ⟨b, off, rfl, block_lt_of_cell c0, c0, c1⟩
    · simp only [List.length_map, List.length_range]
      have := hcm
      unfold maxLen at this
      omega
end Go.Proofs.YtebgmfjgapmpfaaDoor

/- Scanner.End of whatever is left; the reference's ValType, Global, End, whatever its state. -/
namespace Go.Proofs.YtebgmfjgapmpfaaDoor
open Go.RowKit
set_option linter.unusedVariables false
set_option maxRecDepth 100000

/-- The reference's End. -/
def endS (l : List UInt8) : RSt → RSt
  | .at k => if k < l.length then .bad 14 k else .at k
  | .bad c a => .bad c a
/-- A type of values; behind an error any byte. -/
def ValP (q : Nat) (l : List UInt8) (r : Res UInt8) (w : World) (e : Ending) (w' : World) : Prop :=
  ∃ v : UInt8, e = .returned (.int .u8 v.toNat) ∧ Rs w' q l (stOf r) ∧ (∀ c k, r = .ok c k → v = c) ∧ w.grownBy w' (some q)
end Go.Proofs.YtebgmfjgapmpfaaDoor

/- The reference's instruction and constant expression behind an error; whatever the reader's state. -/
namespace Go.Proofs.YtebgmfjgapmpfaaDoor
open Go.RowKit
set_option linter.unusedVariables false
set_option maxRecDepth 100000

set_option maxHeartbeats 8000000 in
theorem refG_bad {w : World} {q : Nat} {l : List UInt8} {ec ea : Int} (h : Rs w q l (.bad ec ea)) :
    Calls Tryd.prog 82 #[.pointer (some ⟨q, 0, none⟩)] w (RGets q l (.err ec ea) w) := by
  have hlt := h.lt
  have HZ := Lib.hid (h.alloc (.cells #[.int .u8 0, .int .u64 0, .int .u64 0, .slice none 0 0] 25))
  obtain ⟨jy, y1⟩ := at_bad HZ.out
  have hnz := h.nz
  have hB := byte_ref HZ.out
  have HWM := Lib.hid (Whole.made w 25 #[.int .u8 0, .int .u64 0, .int .u64 0, .slice none 0 0])
  have hstart : ∀ (x : Int) (s : RSt) w1, Rs w1 q l s → (w.alloc (.cells #[.int .u8 0, .int .u64 0, .int .u64 0, .slice none 0 0] 25)).grownBy w1 (some q) → RGt w q l w1.heap.size none [] s (.int .u8 x) (.int .u64 0) (.int .u64 0) (.slice none 0 0) (w1.alloc (.cells #[.int .u8 x, .int .u64 0, .int .u64 0, .slice none 0 0] 25)) := fun x s w1 hs1 hg1 => by
    have hz := hg1.size
    rw [size_box] at hz
    exact ⟨(HWM.out.grown hg1 (by simp only [ne_eq, Option.some.injEq]; omega)).alloc _, Whole.made _ _ _, hs1.alloc _, gb_alloc (gb_trans (gb_alloc (gb_refl w _) _) hg1) _, hlt, by omega, (fun j v hv => by simp [cells32] at hv), (fun a e => by cases e)⟩
  have HBY := Lib.hid (show Calls Tryd.prog 84 #[.pointer (some ⟨q, 0, none⟩)] (w.alloc (.cells #[.int .u8 0, .int .u64 0, .int .u64 0, .slice none 0 0] 25)) fun e w' => e = .returned (.int .i64 0) ∧ Rs w' q l (.bad ec ea) ∧ (w.alloc (.cells #[.int .u8 0, .int .u64 0, .int .u64 0, .slice none 0 0] 25)).grownBy w' (some q) from hB)
  have HST := Lib.hid (hstart 0 (.bad ec ea))
  have dw : (ec != 0) = true := by simpa using hnz
  have dw2 : (ec == 0) = false := by simpa using hnz
  clear h hB hstart HZ hnz
  go_enter Tryd.func82, Tryd.ntmps82
  go_wp2_with (first
    | (go_at_call 84; go_must ((with_reducible refine HBY.out.mono ?_); rintro e w1 ⟨rfl, hs, hg⟩; have HG1 := Lib.hid (HST.out w1 hs hg); have hh := HG1.out.h2; have hqq := HG1.out.hq; have n1 : ¬ w1.heap.size = w.heap.size := (by omega); have n2 : ¬ w.heap.size = w1.heap.size := (by omega); have n3 : ¬ w1.heap.size = q := (by omega); have n4 : ¬ q = w1.heap.size := (by omega); have c0 := HG1.out.box.cell 0; have c1 := HG1.out.box.cell 1; have c2 := HG1.out.box.cell 2; have c3 := HG1.out.box.cell 3; have f1 := HG1.out.box.frozen 1; have f2 := HG1.out.box.frozen 2; have f3 := HG1.out.box.frozen 3; have r0 := HG1.out.res.cell 0; have r1 := HG1.out.res.cell 1; have r2 := HG1.out.res.cell 2; have r3 := HG1.out.res.cell 3; have z0 := HG1.out.res.frozen 0; have z1 := HG1.out.res.frozen 1; have z2 := HG1.out.res.frozen 2; have z3 := HG1.out.res.frozen 3; simp only [List.getElem?_toArray, List.getElem?_cons_zero, List.getElem?_cons_succ] at c0 c1 c2 c3 r0 r1 r2 r3; obtain ⟨jat, x1⟩ := at_bad HG1.out.rs; have x2 := why_bad HG1.out.rs; clear hs hg hh hqq y1)))
  obtain ⟨q4, hf⟩ := RGt.fin (HG1.out) (.int .u8 0) (.int .u64 0) (.int .u64 0) (.slice none 0 0) _ rfl
  have q0 := q4.cell 0
  have q1 := q4.cell 1
  have q2 := q4.cell 2
  have q3 := q4.cell 3
  simp only [List.getElem?_toArray, List.getElem?_cons_zero, List.getElem?_cons_succ] at q0 q1 q2 q3
  exact bodyPost_ret (v := .agg #[.int .u8 0, .int .u64 0, .int .u64 0, .slice none 0 0]) (by simp [results, Tryd.results82, go_sem, q0, q1, q2, q3]) rfl (rgets_no hf)
set_option maxHeartbeats 4000000 in
theorem refC_bad {w : World} {q : Nat} {l : List UInt8} {ec ea : Int} (h : Rs w q l (.bad ec ea)) :
    Calls Tryd.prog 33 #[.pointer (some ⟨q, 0, none⟩)] w (RGets q l (.err ec ea) w) := by
  have hlt := h.lt
  have HZ := Lib.hid (h.alloc (.cells #[.int .u8 0, .int .u64 0, .int .u64 0, .slice none 0 0] 25))
  obtain ⟨jy, y1⟩ := at_bad HZ.out
  have hG := refG_bad HZ.out
  have HWM := Lib.hid (Whole.made w 25 #[.int .u8 0, .int .u64 0, .int .u64 0, .slice none 0 0])
  have hstart : ∀ (A : Option Addr) (ls : List Int) (s : RSt) (v0 v1 v2 v3 : Value) w1, Rs w1 q l s → (w.alloc (.cells #[.int .u8 0, .int .u64 0, .int .u64 0, .slice none 0 0] 25)).grownBy w1 (some q) → Lies w1 w1.heap.size A (cells32 ls) → (∀ a, A = some a → (w.alloc (.cells #[.int .u8 0, .int .u64 0, .int .u64 0, .slice none 0 0] 25)).heap.size ≤ a.block) →
      RcS w q l w1.heap.size A ls s v0 v1 v2 v3 (w1.alloc (.cells #[v0, v1, v2, v3] 25)) := fun A ls s v0 v1 v2 v3 w1 hs1 hg1 hla hfar => by
    have hz := hg1.size
    rw [size_box] at hz
    exact ⟨(HWM.out.grown hg1 (by simp only [ne_eq, Option.some.injEq]; omega)).alloc _, Whole.made _ _ _, hs1.alloc _, gb_alloc (gb_trans (gb_alloc (gb_refl w _) _) hg1) _, hlt, by omega, lies_box hla _, fun a ha => by have := hfar a ha; rw [size_box] at this; omega⟩
  have HST := Lib.hid hstart
  have HFB := Lib.hid (fun (W : World) (c a x y : Int) (h : Rs W q l (.bad c a)) (hx : x ≠ 0) => show Calls Tryd.prog 83 #[.pointer (some ⟨q, 0, none⟩), .int .i64 x, .int .i64 y] W fun e w' => e = .returned (.tuple #[]) ∧ Rs w' q l (.bad c a) ∧ W.grownBy w' (some q) from fail_ref h x y hx)
  have HBB := Lib.hid (fun (W : World) (c a : Int) (h : Rs W q l (.bad c a)) => show Calls Tryd.prog 84 #[.pointer (some ⟨q, 0, none⟩)] W fun e w' => e = .returned (.int .i64 0) ∧ Rs w' q l (.bad c a) ∧ W.grownBy w' (some q) from byte_ref h)
  have h12 : (12 : Int) ≠ 0 := by decide
  have HG := Lib.hid (show Calls Tryd.prog 82 #[.pointer (some ⟨q, 0, none⟩)] (w.alloc (.cells #[.int .u8 0, .int .u64 0, .int .u64 0, .slice none 0 0] 25)) fun e w' => e = .returned (.agg #[.int .u8 0, .int .u64 0, .int .u64 0, .slice none 0 0]) ∧ Rs w' q l (.bad ec ea) ∧ (w.alloc (.cells #[.int .u8 0, .int .u64 0, .int .u64 0, .slice none 0 0] 25)).grownBy w' (some q) from hG)
  have hne : ∀ W, Rs W q l (.bad ec ea) → (ec != 0) = true ∧ (ec == 0) = false := fun W h => ⟨by simpa using h.nz, by simpa using h.nz⟩
  have HNE := Lib.hid hne
  clear h hG hstart hne HZ
  go_enter Tryd.func33, Tryd.ntmps33
  go_wp2_with (first
    | (go_at_call 82; go_must ((with_reducible refine HG.out.mono ?_); rintro e w1 ⟨rfl, hs, hg⟩; obtain ⟨dw, dw2⟩ := HNE.out _ hs; have HG1 := Lib.hid (HST.out none [] (.bad ec ea) (.int .u8 0) (.int .u64 0) (.int .u64 0) (.slice none 0 0) w1 hs hg (fun j v hv => by simp [cells32] at hv) (fun a e => by cases e)); have hh := HG1.out.h2; have hqq := HG1.out.hq; have n1 : ¬ w1.heap.size = w.heap.size := (by omega); have n2 : ¬ w.heap.size = w1.heap.size := (by omega); have n3 : ¬ w1.heap.size = q := (by omega); have n4 : ¬ q = w1.heap.size := (by omega); clear hh hqq; have c0 := HG1.out.box.cell 0; have c1 := HG1.out.box.cell 1; have c2 := HG1.out.box.cell 2; have c3 := HG1.out.box.cell 3; have r0 := HG1.out.res.cell 0; have r1 := HG1.out.res.cell 1; have r2 := HG1.out.res.cell 2; have r3 := HG1.out.res.cell 3; have z0 := HG1.out.res.frozen 0; have z1 := HG1.out.res.frozen 1; have z2 := HG1.out.res.frozen 2; have z3 := HG1.out.res.frozen 3; simp only [List.getElem?_toArray, List.getElem?_cons_zero, List.getElem?_cons_succ] at c0 c1 c2 c3 r0 r1 r2 r3; obtain ⟨jat1, x1⟩ := at_bad HG1.out.rs; have x2 := why_bad HG1.out.rs; clear hs hg y1))
    | (go_at_call 84; go_must ((with_reducible refine (HBB.out _ ec ea HG1.out.rs).mono ?_); rintro e w2 ⟨rfl, hs, hg⟩; clear c0 c1 c2 c3 r0 r1 r2 r3 z0 z1 z2 z3 x1 x2; have HG2 := Lib.hid (HG1.out.call hs hg); have c0 := HG2.out.box.cell 0; have c1 := HG2.out.box.cell 1; have c2 := HG2.out.box.cell 2; have c3 := HG2.out.box.cell 3; have r0 := HG2.out.res.cell 0; have r1 := HG2.out.res.cell 1; have r2 := HG2.out.res.cell 2; have r3 := HG2.out.res.cell 3; have z0 := HG2.out.res.frozen 0; have z1 := HG2.out.res.frozen 1; have z2 := HG2.out.res.frozen 2; have z3 := HG2.out.res.frozen 3; simp only [List.getElem?_toArray, List.getElem?_cons_zero, List.getElem?_cons_succ] at c0 c1 c2 c3 r0 r1 r2 r3; obtain ⟨jat2, x1⟩ := at_bad HG2.out.rs; have x2 := why_bad HG2.out.rs; clear hs hg))
    | (go_at_call 83; go_must ((with_reducible refine (HFB.out _ ec ea 12 _ HG2.out.rs h12).mono ?_); rintro e w3 ⟨rfl, hs, hg⟩; clear c0 c1 c2 c3 r0 r1 r2 r3 z0 z1 z2 z3 x1 x2; have HG3 := Lib.hid (HG2.out.call hs hg); have c0 := HG3.out.box.cell 0; have c1 := HG3.out.box.cell 1; have c2 := HG3.out.box.cell 2; have c3 := HG3.out.box.cell 3; have r0 := HG3.out.res.cell 0; have r1 := HG3.out.res.cell 1; have r2 := HG3.out.res.cell 2; have r3 := HG3.out.res.cell 3; have z0 := HG3.out.res.frozen 0; have z1 := HG3.out.res.frozen 1; have z2 := HG3.out.res.frozen 2; have z3 := HG3.out.res.frozen 3; simp only [List.getElem?_toArray, List.getElem?_cons_zero, List.getElem?_cons_succ] at c0 c1 c2 c3 r0 r1 r2 r3; obtain ⟨jat3, x1⟩ := at_bad HG3.out.rs; have x2 := why_bad HG3.out.rs; clear hs hg)))
  obtain ⟨q4, hf⟩ := HG3.out.fin (.int .u8 0) (.int .u64 0) (.int .u64 0) (.slice none 0 0) _ rfl
  have q0 := q4.cell 0
  have q1 := q4.cell 1
  have q2 := q4.cell 2
  have q3 := q4.cell 3
  simp only [List.getElem?_toArray, List.getElem?_cons_zero, List.getElem?_cons_succ] at q0 q1 q2 q3
  exact bodyPost_ret (v := .agg #[.int .u8 0, .int .u64 0, .int .u64 0, .slice none 0 0]) (by simp [results, Tryd.results33, go_sem, q0, q1, q2, q3]) rfl (rgets_no hf)
/-- Whatever its state. -/
theorem refC_st {w : World} {q : Nat} {l : List UInt8} {s : RSt} (h : Rs w q l s) :
    Calls Tryd.prog 33 #[.pointer (some ⟨q, 0, none⟩)] w (RGets q l (s.bind (readR l)) w) := by
  cases s with
  | «at» k => exact refC_any h
  | bad c a => exact refC_bad h
/-- A constant expression; behind an error the zero value. -/
theorem refC_v {w : World} {q : Nat} {l : List UInt8} {s : RSt} (h : Rs w q l s) :
    Calls Tryd.prog 33 #[.pointer (some ⟨q, 0, none⟩)] w fun e w' => ∃ (i : I) (A : Option Addr) (c : Nat), e = .returned (insV i A c) ∧ Rs w' q l (stOf (s.bind (readR l))) ∧ (∀ y k, s.bind (readR l) = .ok y k → i = y) ∧ w.grownBy w' (some q) := by
  refine (refC_st h).mono ?_
  intro e w' hq
  cases hr : s.bind (readR l) with
  | err c a =>
    rw [hr] at hq
    obtain ⟨rfl, h1, h2⟩ := hq
    exact ⟨⟨0, 0, 0, []⟩, none, 0, rfl, h1, (fun y k e => by cases e), h2⟩
  | ok i k =>
    rw [hr] at hq
    obtain ⟨A, c, rfl, _, _, h1, h2⟩ := hq
    exact ⟨i, A, c, rfl, h1, (fun y k e => by injection e with e1 e2), h2⟩
end Go.Proofs.YtebgmfjgapmpfaaDoor

/- Few laws that every layer wants: strings of bytes that lie somewhere, boxes, fields; wire.Size. -/
namespace Go.Proofs.YtebgmfjgapmpfaaDoor
open Go.RowKit
set_option linter.unusedVariables false
set_option maxRecDepth 100000

theorem be_of {a : Nat} {b : Int} {c : Bool} (h : decide ((a : Int) = b) = c) : ((a : Int) == b) = c := by rw [← h]; rfl
theorem nb_of {a : Nat} {b : Int} {c : Bool} (h : decide ((a : Int) ≠ b) = c) : ((a : Int) != b) = c := by rw [← h]; by_cases e : (a : Int) = b <;> simp [bne, e]
theorem zb_of {a : Int} {c : Bool} (h : decide (a ≠ 0) = c) : (a != 0) = c := by rw [← h]; by_cases e : a = 0 <;> simp [bne, e]
theorem i8_of {a b : UInt8} (h : (a.toNat : Int) = b.toNat) : a = b := UInt8.toNat_inj.1 (by omega)
theorem i32_of {a b : UInt32} (h : (a.toNat : Int) = b.toNat) : a = b := UInt32.toNat_inj.1 (by omega)
theorem S_beqM (a b : List UInt8) : ((S a).toList == (S b).toList) = decide (a = b) := by rw [S_toList, S_toList]; by_cases h : a = b <;> simp [h]
theorem ret_pair {v : Value} {a b : Int} (h : a = b) : Ending.returned (.tuple #[v, .int .i64 a]) = .returned (.tuple #[v, .int .i64 b]) := by rw [h]
theorem u32_le (a : UInt32) : (a.toNat : Int) ≤ 4294967295 := by have := a.toNat_lt; omega
theorem u8_le (a : UInt8) : (a.toNat : Int) ≤ 255 := by have := a.toNat_lt; omega
theorem below_new {w w1 w2 : World} {q : Nat} (h : Below w.heap.size w w1) (hg : w1.grownBy w2 (some q)) (hq : w.heap.size ≤ q) : Below w.heap.size w w2 :=
  Below.grown h hg h.size (fun g e => by injection e with e; omega)
/-- A block of bytes that reads as it was made, marked or not. -/
theorem lies_made (w : World) (xs : List UInt8) (fz : Nat × Nat) : Lies (w.alloc (.cells (cells (nums xs)).toArray 5 fz)) (w.heap.size + 1) (some ⟨w.heap.size, 0, none⟩) (cells (nums xs)) := fun i v hv => by
  refine ⟨w.heap.size, 0, rfl, by omega, ?_⟩
  rw [Nat.zero_add, cell_of_row _ w.heap.size i _ _ fz (heap_alloc_new w _)]
  simpa using hv
theorem made_2 (w : World) (o : Obj) (t : TypeId) (cs : Array Value) : Whole ((w.alloc o).alloc (.cells cs t)) (w.heap.size + 1) t cs := by
  have h := Whole.made (w.alloc o) t cs
  rwa [size_box] at h
/-- string(b) of whatever lies. -/
theorem str_any {w : World} {B : Nat} {A : Option Addr} {o : List UInt8} (h : Lies w B A (cells (nums o))) (c : Nat) :
    ∀ dst, Tryd.prog.underlying dst = some .string → (convert 26 dst (.slice A o.length c)).run Tryd.prog w = .ok (.string (S o)) w := by
  by_cases h0 : 0 < (nums o).length
  · have := str_lies h h0 c Tryd.underlying26 Tryd.underlying5
    rw [strOfNums_nums, nums_length] at this
    exact this
  · have ho : o = [] := List.eq_nil_of_length_eq_zero (by rw [nums_length] at h0; omega)
    subst ho
    intro dst hd
    rw [run_convert_bytes_string w _ dst 5 _ _ c Tryd.underlying26 Tryd.underlying5 hd]
    have e : S [] = ByteArray.empty := rfl
    rw [e]
    cases A <;> simp [Conv.bytesToString, loadCells]
    all_goals rfl
/-- Bytes that lie somewhere in this world; whose slice is nil only without room. -/
structure Pc (A : Option Addr) (c : Nat) (l : List UInt8) (w : World) : Prop where
  lies : Lies w w.heap.size A (cells (nums l))
  nil : A = none → c = 0
theorem Pc.below {A : Option Addr} {c : Nat} {l : List UInt8} {w w' : World} (h : Pc A c l w) (hb : Below w.heap.size w w') : Pc A c l w' := ⟨(h.lies.below hb (Nat.le_refl _)).more hb.size, h.nil⟩
theorem Pc.from {A : Option Addr} {c : Nat} {l : List UInt8} {w w' : World} {B : Nat} (h : Lies w B A (cells (nums l))) (hn : A = none → c = 0) (hB : B ≤ w.heap.size) (hb : Below w.heap.size w w') : Pc A c l w' := ⟨(h.below hb hB).more (Nat.le_trans hB hb.size), hn⟩
theorem Row.pc {w : World} {B : Nat} {v : Value} {xs : List UInt8} (h : Row w B v xs) : ∃ A c, v = .slice A xs.length c ∧ Pc A c xs w := by
  have h' := h
  obtain ⟨h1, h2⟩ := h
  obtain ⟨A, c, e, h3, h4, h5, _⟩ := lies_own h'
  refine ⟨A, c, e, h5, fun hA => ?_⟩
  rcases h2 with ⟨e2, _⟩ | ⟨g, cap, cur, e2, _⟩
  · rw [e] at e2
    injection e2
  · rw [e, hA] at e2
    injection e2 with e3
    cases e3
theorem Pc.room {A : Option Addr} {c : Nat} {l : List UInt8} {w : World} (h : Pc A c l w) : A = none → c = 0 := h.nil
end Go.Proofs.YtebgmfjgapmpfaaDoor

/- Constant expressions have no labels; their bytes. -/
namespace Go.Proofs.YtebgmfjgapmpfaaDoor
open Go.RowKit
set_option linter.unusedVariables false
set_option maxRecDepth 100000

theorem isC_imm {n : Nat} (h : IsC n) : immR n ≠ 3 := by rcases h with rfl | rfl | rfl <;> decide +kernel
/-- A constant expression has no labels. -/
theorem cz_nil {i : I} (h : crightZ i = 0) : i.l = [] := by
  obtain ⟨h1, h2⟩ := cr_zero h
  unfold rightZ at h1
  split at h1
  · omega
  · split at h1
    · omega
    · rename_i h3
      have h4 := isC_imm h2
      rcases Nat.eq_zero_or_pos i.l.length with h5 | h5
      · exact List.eq_nil_of_length_eq_zero h5
      · exact absurd ⟨h5, h4⟩ h3
/-- consts.Put, whatever the labels lie as: there are none where they would be read. -/
theorem cput2_any (i : I) (A : Option Addr) (c : Nat) (w : World) (h : i.Ok) (hT : Tabs w) (h0 : crightZ i = 0) :
    Calls Tryd.prog 25 #[insV i A c] w (CPutPost i w) :=
  cput_any i A c w h hT (by rw [cz_nil h0]; intro j v hv; simp [cells32] at hv) (by rw [cz_nil h0]; simp)
/-- Its bytes. -/
noncomputable def cputL (i : I) : List UInt8 := putL i ++ [11]
theorem cputL_len {i : I} (h : i.Ok) (h0 : crightZ i = 0) : 1 ≤ (cputL i).length ∧ (cputL i).length ≤ 32 := by
  have hl := cz_nil h0
  obtain ⟨a0, a1, b0, b1, _⟩ := h
  have k1 := lebL_len i.a (by omega)
  have k2 := lebL_len i.b (by omega)
  have k3 := lebL_len ((0 : Nat) : Int) (by omega)
  have k5 := sebL_len (s32 i.a) (by unfold s32; omega) (by unfold s32; omega)
  have k6 := sebL_len (s64 i.a) (by unfold s64; omega) (by unfold s64; omega)
  unfold cputL putL immL immB labL labsL
  rw [hl]
  repeat' split
  all_goals (simp only [List.length_append, List.length_cons, List.length_nil, List.flatMap_nil])
  all_goals omega
theorem readR_nil {l : List UInt8} {k : Nat} {i : I} {k' : Nat} (h : readR l k = .ok i k') : i.l = [] := by
  unfold readR at h
  cases hr : getR l k with
  | err c a => rw [hr, Res.bind_err] at h; cases h
  | ok j p =>
    rw [hr, Res.bind_ok] at h
    by_cases hz : crightZ j = 0
    · rw [if_pos hz] at h
      cases hb : byteR l p with
      | err c a => rw [hb, Res.bind_err] at h; cases h
      | ok d p2 =>
        rw [hb, Res.bind_ok] at h
        by_cases hd : d = 11
        · rw [if_pos hd] at h
          injection h with h1 h2
          subst h1
          exact cz_nil hz
        · rw [if_neg hd] at h; cases h
    · rw [if_neg hz] at h; cases h
end Go.Proofs.YtebgmfjgapmpfaaDoor

/- Globals as plain data; globals.Right; creelref12.Right. -/
namespace Go.Proofs.YtebgmfjgapmpfaaDoor
open Go.RowKit
set_option linter.unusedVariables false
set_option maxRecDepth 100000

/-- A global. -/
structure Gl where
  t : UInt8
  m : Bool
  i : I
/-- Its cells, its labels at A. -/
abbrev glC (x : Gl) (A : Option Addr) (c : Nat) : Array Value := #[.int .u8 x.t.toNat, .bool x.m, .int .u8 x.i.op.toNat, .int .u64 x.i.a, .int .u64 x.i.b, .slice A x.i.l.length c]
abbrev glV (x : Gl) (A : Option Addr) (c : Nat) : Value := .agg (glC x A c)
/-- The zero value's cells. -/
abbrev glZ : Array Value := #[.int .u8 0, .bool false, .int .u8 0, .int .u64 0, .int .u64 0, .slice none 0 0]
abbrev SixG (W : World) (b : Nat) (x : Gl) (A : Option Addr) (c : Nat) : Prop :=
  W.cell? ⟨b, 0, none⟩ = some (.int .u8 x.t.toNat) ∧ W.cell? ⟨b, 1, none⟩ = some (.bool x.m) ∧ W.cell? ⟨b, 2, none⟩ = some (.int .u8 x.i.op.toNat) ∧ W.cell? ⟨b, 3, none⟩ = some (.int .u64 x.i.a) ∧ W.cell? ⟨b, 4, none⟩ = some (.int .u64 x.i.b) ∧ W.cell? ⟨b, 5, none⟩ = some (.slice A x.i.l.length c)
theorem Whole.gl {w : World} {b : Nat} {t : TypeId} {x : Gl} {A : Option Addr} {c : Nat} (h : Whole w b t (glC x A c)) : SixG w b x A c := ⟨h.cell 0, h.cell 1, h.cell 2, h.cell 3, h.cell 4, h.cell 5⟩
theorem put6 {w : World} {b : Nat} {t : TypeId} {x0 x1 x2 x3 x4 x5 u0 u1 u2 u3 u4 u5 : Value} (hb : Whole w b t #[x0, x1, x2, x3, x4, x5]) :
    Whole ((((((w.setCell ⟨b, 0, none⟩ u0).setCell ⟨b, 1, none⟩ u1).setCell ⟨b, 2, none⟩ u2).setCell ⟨b, 3, none⟩ u3).setCell ⟨b, 4, none⟩ u4).setCell ⟨b, 5, none⟩ u5) b t #[u0, u1, u2, u3, u4, u5] ∧
    w.grownBy ((((((w.setCell ⟨b, 0, none⟩ u0).setCell ⟨b, 1, none⟩ u1).setCell ⟨b, 2, none⟩ u2).setCell ⟨b, 3, none⟩ u3).setCell ⟨b, 4, none⟩ u4).setCell ⟨b, 5, none⟩ u5) (some b) :=
  ⟨((((((hb.put 0 u0).put 1 u1).put 2 u2).put 3 u3).put 4 u4).put 5 u5),
   gb_put (p := ⟨b, 5, none⟩) (gb_put (p := ⟨b, 4, none⟩) (gb_put (p := ⟨b, 3, none⟩) (gb_put (p := ⟨b, 2, none⟩) (gb_put (p := ⟨b, 1, none⟩) (gb_put (p := ⟨b, 0, none⟩) (gb_refl w _) (.inl rfl) u0) (.inl rfl) u1) (.inl rfl) u2) (.inl rfl) u3) (.inl rfl) u4) (.inl rfl) u5⟩
/-- A block that holds a global, in a world grown from B: what is held of it. -/
abbrev BxG (B : World) (b : Nat) (x : Gl) (A : Option Addr) (c : Nat) (W : World) : Prop := (Whole W b 82 (glC x A c) ∧ Below B.heap.size B W) ∧ SixG W b x A c
section
variable {B W W' : World} {b : Nat} {x : Gl} {A : Option Addr} {c : Nat}
theorem bxG_on (h : BxG B b x A c W) (hb : Below W.heap.size W W') : BxG B b x A c W' := ⟨⟨h.1.1.below hb, h.1.2.trans (hb.mono h.1.2.size)⟩, (h.1.1.below hb).gl⟩
theorem bxG_start (w : World) (x : Gl) (A : Option Addr) (c : Nat) : BxG w w.heap.size x A c (w.alloc (.cells (glC x A c) 82)) := ⟨⟨Whole.made _ _ _, below_box _ _⟩, (Whole.made w 82 (glC x A c)).gl⟩
theorem bxG_bel (h : BxG B b x A c W) : Below B.heap.size B W := h.1.2
end
/-- May it be? -/
def rG (x : Gl) : Int := if valueZ x.t.toNat ≠ 0 then valueZ x.t.toNat else crightZ x.i
theorem rG_zero {x : Gl} (h : rG x = 0) : valueZ x.t.toNat = 0 ∧ crightZ x.i = 0 := by
  unfold rG at h
  by_cases c1 : valueZ x.t.toNat = 0
  · rw [if_neg (by simpa using c1)] at h
    exact ⟨c1, h⟩
  · rw [if_pos c1] at h; exact absurd h c1
set_option maxHeartbeats 2000000 in
theorem gright_any (x : Gl) (A : Option Addr) (c : Nat) (w : World) (oi : x.i.Ok) (hT : Tabs w) (hl : (x.i.l.length : Int) ≤ 9223372036854775807) :
    Calls Tryd.prog 44 #[glV x A c] w fun e w' => e = .returned (.int .i64 (rG x)) ∧ Below w.heap.size w w' := by
  have H0 := Lib.hid (bxG_start w x A c)
  have HC := Lib.hid (cright_any x.i A c (w.alloc (.cells (glC x A c) 82)) oi (hT.below (below_box w _)) hl)
  have HV := Lib.hid (fun W => value_any (x.t.toNat : Int) W)
  by_cases z1 : valueZ x.t.toNat = 0
  · have hr : rG x = crightZ x.i := by unfold rG; rw [if_neg (by simpa using z1)]
    rw [hr]
    rw [z1] at HV
    clear hr z1 hT oi hl
    go_enter Tryd.func44, Tryd.ntmps44
    go_wp2_with (first
      | (go_at_call 88; go_must ((with_reducible refine (HV.out _).mono ?_); rintro e w' ⟨rfl, rfl⟩))
      | (go_at_call 27; go_must ((with_reducible refine HC.out.mono ?_); rintro e w1 ⟨rfl, hb⟩; have H1 := Lib.hid (bxG_on H0.out hb); clear hb)))
    go_ret
    exact ⟨rfl, bxG_bel H1.out⟩
  · have hr : rG x = valueZ x.t.toNat := by unfold rG; rw [if_pos z1]
    rw [hr]
    have dz : (valueZ x.t.toNat != 0) = true := zb_of (by simpa using z1)
    clear hr z1 hT oi hl
    generalize valueZ x.t.toNat = z at *
    go_enter Tryd.func44, Tryd.ntmps44
    go_wp2_with (go_at_call 88; go_must ((with_reducible refine (HV.out _).mono ?_); rintro e w' ⟨rfl, rfl⟩))
    go_ret
    exact ⟨rfl, bxG_bel H0.out⟩
set_option maxHeartbeats 2000000 in
theorem rgright_any (x : Gl) (A : Option Addr) (c : Nat) (w : World) (oi : x.i.Ok) (hl : (x.i.l.length : Int) ≤ 9223372036854775807) :
    Calls Tryd.prog 42 #[glV x A c] w fun e w' => e = .returned (.int .i64 (rG x)) ∧ Below w.heap.size w w' := by
  have H0 := Lib.hid (bxG_start w x A c)
  have HC := Lib.hid (rcright_any x.i A c (w.alloc (.cells (glC x A c) 82)) oi hl)
  have HV := Lib.hid (fun W => refValue_any (x.t.toNat : Int) W)
  have wt : IntKind.i64.wrap (x.t.toNat : Int) = x.t.toNat := by rw [IntKind.wrap_i64]; have := u8_le x.t; omega
  by_cases z1 : valueZ x.t.toNat = 0
  · have hr : rG x = crightZ x.i := by unfold rG; rw [if_neg (by simpa using z1)]
    rw [hr]
    rw [z1] at HV
    clear hr z1 oi hl
    go_enter Tryd.func42, Tryd.ntmps42
    go_wp2_with (first
      | (go_at_call 62; go_must ((with_reducible refine (HV.out _).mono ?_); rintro e w' ⟨rfl, rfl⟩))
      | (go_at_call 24; go_must ((with_reducible refine HC.out.mono ?_); rintro e w1 ⟨rfl, hb⟩; have H1 := Lib.hid (bxG_on H0.out hb); clear hb)))
    go_ret
    exact ⟨rfl, bxG_bel H1.out⟩
  · have hr : rG x = valueZ x.t.toNat := by unfold rG; rw [if_pos z1]
    rw [hr]
    have dz : (valueZ x.t.toNat != 0) = true := zb_of (by simpa using z1)
    clear hr z1 oi hl
    generalize valueZ x.t.toNat = z at *
    go_enter Tryd.func42, Tryd.ntmps42
    go_wp2_with (go_at_call 62; go_must ((with_reducible refine (HV.out _).mono ?_); rintro e w' ⟨rfl, rfl⟩))
    go_ret
    exact ⟨rfl, bxG_bel H0.out⟩
end Go.Proofs.YtebgmfjgapmpfaaDoor

/- globals.Get of any bytes. -/
namespace Go.Proofs.YtebgmfjgapmpfaaDoor
open Go.RowKit
set_option linter.unusedVariables false
set_option maxRecDepth 100000

/-- A global. -/
noncomputable def gR (l : List UInt8) (k : Nat) : Res Gl := (globR l k).bind fun t k1 => (readR l k1).bind fun i k2 => .ok ⟨t.1, t.2, i⟩ k2
/-- What Get leaves behind. -/
def GotR (p : Nat) (l : List UInt8) (r : Res Gl) (w : World) (e : Ending) (w' : World) : Prop := match r with
  | .ok x k => ∃ A c, e = .returned (glV x A c) ∧ Sc w' p l k ∧ w.grownBy w' (some p)
  | .err c a => e = .panicked (stopP c a) ∧ w.grownBy w' (some p)
/-- Get once the type is read: the result's block, the type's box; what the reader at q turns. -/
structure GBG (w : World) (q bt : Nat) (t : UInt8) (m : Bool) (W : World) : Prop where
  res : Whole W w.heap.size 82 glZ
  bx : Whole W bt 68 #[.int .u8 t.toNat, .bool m]
  gr : w.grownBy W (some q)
  hp : q < w.heap.size
  lt : w.heap.size < bt
section
variable {w W W' : World} {q bt : Nat} {t : UInt8} {m : Bool}
theorem GBG.call (h : GBG w q bt t m W) (hg : W.grownBy W' (some q)) : GBG w q bt t m W' := by
  have a := h.hp
  have b := h.lt
  exact ⟨h.res.grown hg (by simp only [ne_eq, Option.some.injEq]; omega), h.bx.grown hg (by simp only [ne_eq, Option.some.injEq]; omega), gb_trans h.gr hg, a, b⟩
theorem GBG.start {w w1 : World} (hp : q < w.heap.size) (hg : (w.alloc (.cells glZ 82)).grownBy w1 (some q)) : GBG w q w1.heap.size t m (w1.alloc (.cells #[.int .u8 t.toNat, .bool m] 68)) := by
  have hz := hg.size
  rw [size_box] at hz
  exact ⟨((Whole.made w _ _).grown hg (by simp only [ne_eq, Option.some.injEq]; omega)).alloc _, Whole.made _ _ _, gb_alloc (gb_trans (gb_alloc (gb_refl w _) _) hg) _, hp, by omega⟩
theorem GBG.fin {x0 x1 x2 x3 x4 x5 : Value} (h : GBG w q bt t m W) :
    Whole ((((((W.setCell ⟨w.heap.size, 0, none⟩ x0).setCell ⟨w.heap.size, 1, none⟩ x1).setCell ⟨w.heap.size, 2, none⟩ x2).setCell ⟨w.heap.size, 3, none⟩ x3).setCell ⟨w.heap.size, 4, none⟩ x4).setCell ⟨w.heap.size, 5, none⟩ x5) w.heap.size 82 #[x0, x1, x2, x3, x4, x5] ∧
    W.grownBy ((((((W.setCell ⟨w.heap.size, 0, none⟩ x0).setCell ⟨w.heap.size, 1, none⟩ x1).setCell ⟨w.heap.size, 2, none⟩ x2).setCell ⟨w.heap.size, 3, none⟩ x3).setCell ⟨w.heap.size, 4, none⟩ x4).setCell ⟨w.heap.size, 5, none⟩ x5) (some w.heap.size) ∧
    w.grownBy ((((((W.setCell ⟨w.heap.size, 0, none⟩ x0).setCell ⟨w.heap.size, 1, none⟩ x1).setCell ⟨w.heap.size, 2, none⟩ x2).setCell ⟨w.heap.size, 3, none⟩ x3).setCell ⟨w.heap.size, 4, none⟩ x4).setCell ⟨w.heap.size, 5, none⟩ x5) (some q) := by
  obtain ⟨h1, h2⟩ := put6 (u0 := x0) (u1 := x1) (u2 := x2) (u3 := x3) (u4 := x4) (u5 := x5) h.res
  have := h.hp
  exact ⟨h1, h2, gb_before h.gr h2 (fun g e => .inr (by injection e with e; omega))⟩
end
set_option maxHeartbeats 4000000 in
theorem get_gl {w : World} {p : Nat} {l : List UInt8} {k : Nat} (h : Sc w p l k) (hT : TbP p w) :
    Calls Tryd.prog 47 #[.pointer (some ⟨p, 0, none⟩)] w (GotR p l (gR l k) w) := by
  have hp := h.lt
  have hG := global_scan (h.alloc (.cells glZ 82))
  have HT0 := Lib.hid (hT.below (below_box w (.cells glZ 82)) (Nat.le_of_lt hp))
  have HWM := Lib.hid (Whole.made w 82 glZ)
  unfold gR
  cases h1 : globR l k with
  | err c a =>
    rw [h1] at hG
    rw [Res.bind_err]
    have HG := Lib.hid hG
    clear hG h1 h hT
    go_enter Tryd.func47, Tryd.ntmps47
    go_wp2_with (go_at_call 90; go_must ((with_reducible refine HG.out.mono ?_); rintro e w1 ⟨rfl, hg⟩; have HG1 := Lib.hid hg; clear hg))
    exact ⟨rfl, rfl, gb_trans (gb_alloc (gb_refl w _) _) HG1.out⟩
  | ok t k1 =>
    rw [h1] at hG
    rw [Res.bind_ok]
    obtain ⟨t, m⟩ := t
    have HG := Lib.hid (show Calls Tryd.prog 90 #[.pointer (some ⟨p, 0, none⟩)] (w.alloc (.cells glZ 82)) (fun e w' => e = .returned (.agg #[.int .u8 t.toNat, .bool m]) ∧ Sc w' p l k1 ∧ (w.alloc (.cells glZ 82)).grownBy w' (some p)) from hG)
    clear hG h1 h hT
    have hC := fun W (hs : Sc W p l k1) (ht : TbP p W) => cread_any hs ht
    cases h2 : readR l k1 with
    | err c a =>
      rw [h2] at hC
      rw [Res.bind_err]
      have HC := Lib.hid (fun W (hs : Sc W p l k1) (ht : TbP p W) => show Calls Tryd.prog 32 #[.pointer (some ⟨p, 0, none⟩)] W (fun e w' => e = .panicked (stopP c a) ∧ W.grownBy w' (some p)) from hC W hs ht)
      clear hC h2
      go_enter Tryd.func47, Tryd.ntmps47
      go_wp2_with (go_at_call 90; go_must ((with_reducible refine HG.out.mono ?_); rintro e w1 ⟨rfl, hs, hg⟩; have HGB := Lib.hid (GBG.start (t := t) (m := m) hp hg); have HS1 := Lib.hid (hs.alloc (.cells #[.int .u8 t.toNat, .bool m] 68)); have HT1 := Lib.hid ((HT0.out.self hg).below (below_box w1 (.cells #[.int .u8 t.toNat, .bool m] 68)) (Nat.le_of_lt hs.lt)); clear hs hg))
      generalize w1.alloc (.cells #[.int .u8 t.toNat, .bool m] 68) = W at *
      generalize w1.heap.size = bt at *
      have x0 := HGB.out.bx.cell 0
      have x1 := HGB.out.bx.cell 1
      simp only [List.getElem?_toArray, List.getElem?_cons_zero, List.getElem?_cons_succ] at x0 x1
      have HC2 := Lib.hid (HC.out _ (show Sc W.drew p l k1 from HS1.out) (show TbP p W.drew from HT1.out.self (gb_drew (gb_refl _ _))))
      refine wp_region_held_drew (S := fun W' => W'.cell? ⟨bt, 0, none⟩ = some (.int .u8 t.toNat) ∧ W'.cell? ⟨bt, 1, none⟩ = some (.bool m)) (by kernel_rfl) ⟨x0, x1⟩ (fun hHeld => ?_)
      (refine wpAnyH_take (i := 0) (oi := { dst := some 6, op := Op.load 68 (Operand.tmp 3), type := 68, pos := "globals.go:32", after := #[], guard := none }) (v := ?_) rfl (by kernel_rfl) (by kernel_rfl) (by kernel_rfl) (fun _ _ _ h => h) ?_ (by assumption) ?_; rotate_left; focus (refine .inl ⟨by kernel_rfl, ?_⟩; intro w hSw; (try dsimp only at hSw); go_simp; (try with_reducible rfl)); (try simp only [Act.put, List.setIfInBounds_toArray, List.set_cons_zero, List.set_cons_succ]))
      (refine wpAnyH_take (i := 1) (oi := { dst := some 7, op := Op.move (Operand.tmp 0), type := 51, pos := "globals.go:32", after := #[], guard := none }) (v := ?_) rfl (by kernel_rfl) (by kernel_rfl) (by kernel_rfl) (fun _ _ _ h => h) ?_ (by assumption) ?_; rotate_left; focus (refine .inl ⟨by kernel_rfl, ?_⟩; intro w hSw; (try dsimp only at hSw); go_simp; (try with_reducible rfl)); (try simp only [Act.put, List.setIfInBounds_toArray, List.set_cons_zero, List.set_cons_succ]))
      refine wpAnyH_ready (rs := [2]) (by kernel_rfl) (by simp) ?_
      refine AllReadyH.cons (o := { dst := some 8, op := Op.call { callee := Callee.value (Operand.func 32), args := #[Operand.tmp 7], argTypes := #[51] }, type := 25, pos := "globals.go:32", after := #[{ on := 1, ground := Ground.data }], guard := none }) rfl (fun K hK => ?_) AllReadyH.nil
      go_simp
      (go_at_call 32; (with_reducible refine HC2.out.mono ?_); rintro e w2 ⟨rfl, hg⟩; exact ⟨rfl, rfl, gb_trans (gb_drew HGB.out.gr) hg⟩)
    | ok i k2 =>
      rw [h2] at hC
      rw [Res.bind_ok]
      have HC := Lib.hid (fun W (hs : Sc W p l k1) (ht : TbP p W) => show Calls Tryd.prog 32 #[.pointer (some ⟨p, 0, none⟩)] W (Gets p l i k2 W) from hC W hs ht)
      clear hC h2
      go_enter Tryd.func47, Tryd.ntmps47
      go_wp2_with (go_at_call 90; go_must ((with_reducible refine HG.out.mono ?_); rintro e w1 ⟨rfl, hs, hg⟩; have HGB := Lib.hid (GBG.start (t := t) (m := m) hp hg); have HS1 := Lib.hid (hs.alloc (.cells #[.int .u8 t.toNat, .bool m] 68)); have HT1 := Lib.hid ((HT0.out.self hg).below (below_box w1 (.cells #[.int .u8 t.toNat, .bool m] 68)) (Nat.le_of_lt hs.lt)); clear hs hg))
      generalize w1.alloc (.cells #[.int .u8 t.toNat, .bool m] 68) = W at *
      generalize w1.heap.size = bt at *
      have HC2 := Lib.hid (HC.out _ (show Sc W.drew p l k1 from HS1.out) (show TbP p W.drew from HT1.out.self (gb_drew (gb_refl _ _))))
      have HGD := Lib.hid (HGB.out.call (gb_drew (gb_refl W _)))
      have x0 := HGB.out.bx.cell 0
      have x1 := HGB.out.bx.cell 1
      simp only [List.getElem?_toArray, List.getElem?_cons_zero, List.getElem?_cons_succ] at x0 x1
      clear HC HS1 HT1 HGB HG HT0
      go_region_with (go_at_call 32; (with_reducible refine HC2.out.mono ?_); intro e w2 hq; obtain ⟨A, c, rfl, _, _, hs, hg, _⟩ := hq; have HS2 := Lib.hid hs; have HG2 := Lib.hid (HGD.out.call hg); have y0 := HG2.out.bx.cell 0; have y1 := HG2.out.bx.cell 1; simp only [List.getElem?_toArray, List.getElem?_cons_zero, List.getElem?_cons_succ] at y0 y1; have f0 := HG2.out.res.frozen 0; have f1 := HG2.out.res.frozen 1; have f2 := HG2.out.res.frozen 2; have f3 := HG2.out.res.frozen 3; have f4 := HG2.out.res.frozen 4; have f5 := HG2.out.res.frozen 5; have z0 := HG2.out.res.cell 0; have z1 := HG2.out.res.cell 1; have z2 := HG2.out.res.cell 2; have z3 := HG2.out.res.cell 3; have z4 := HG2.out.res.cell 4; have z5 := HG2.out.res.cell 5; simp only [List.getElem?_toArray, List.getElem?_cons_zero, List.getElem?_cons_succ] at z0 z1 z2 z3 z4 z5; clear hs hg)
      all_goals
        go_wp2
        obtain ⟨h1, h2, h3⟩ := GBG.fin (x0 := .int .u8 t.toNat) (x1 := .bool m) (x2 := .int .u8 i.op.toNat) (x3 := .int .u64 i.a) (x4 := .int .u64 i.b) (x5 := .slice A i.l.length c) HG2.out
        obtain ⟨q0, q1, q2, q3, q4, q5⟩ := Whole.gl (x := ⟨t, m, i⟩) h1
        have hs3 := HS2.out.grown h2 (by have := HG2.out.hp; simp only [ne_eq, Option.some.injEq]; omega) (fun g e => by have := HG2.out.hp; injection e with e; omega)
        exact bodyPost_ret (v := glV ⟨t, m, i⟩ A c) (by simp [results, Tryd.results47, go_sem, q0, q1, q2, q3, q4, q5]) rfl ⟨A, c, rfl, hs3, h3⟩
end Go.Proofs.YtebgmfjgapmpfaaDoor

/- The reference's Global and creelref12.Get, whatever the reader's state. (By gen/genRefG.py.) -/
namespace Go.Proofs.YtebgmfjgapmpfaaDoor
open Go.RowKit
set_option linter.unusedVariables false
set_option maxRecDepth 100000

/-- A global's type; behind an error the zero value. -/
def GlobP (q : Nat) (l : List UInt8) (r : Res (UInt8 × Bool)) (w : World) (e : Ending) (w' : World) : Prop :=
  ∃ v : UInt8 × Bool, e = .returned (encGl v) ∧ Rs w' q l (stOf r) ∧ (∀ y k, r = .ok y k → v = y) ∧ w.grownBy w' (some q)
/-- What creelref12.Get leaves behind. -/
def RGotG (q : Nat) (l : List UInt8) (r : Res Gl) (w : World) (e : Ending) (w' : World) : Prop :=
  ∃ (x : Gl) (A : Option Addr) (c : Nat), e = .returned (glV x A c) ∧ Rs w' q l (stOf r) ∧ (∀ y k, r = .ok y k → x = y) ∧ w.grownBy w' (some q)
end Go.Proofs.YtebgmfjgapmpfaaDoor

/- globals.Put; creelref12.Count, Put. -/
namespace Go.Proofs.YtebgmfjgapmpfaaDoor
open Go.RowKit
set_option linter.unusedVariables false
set_option maxRecDepth 100000

noncomputable def gputL (x : Gl) : List UInt8 := encG x.t.toNat x.m ++ cputL x.i
theorem gputL_len {x : Gl} (h : x.i.Ok) (h0 : rG x = 0) : 3 ≤ (gputL x).length ∧ (gputL x).length ≤ 34 := by
  have h1 := cputL_len h (rG_zero h0).2
  have h2 : (encG x.t.toNat x.m).length = 2 := rfl
  unfold gputL
  rw [List.length_append]
  omega
/-- What Put hands back. -/
def PuttedG (x : Gl) (w : World) (e : Ending) (w' : World) : Prop := ∃ v, e = .returned (.tuple #[v, .int .i64 (rG x)]) ∧ Row w' w.heap.size v (if rG x = 0 then gputL x else []) ∧ Below w.heap.size w w'
set_option maxHeartbeats 8000000 in
theorem put_gl (x : Gl) (A : Option Addr) (c : Nat) (w : World) (oi : x.i.Ok) (hT : Tabs w) (hl : (x.i.l.length : Int) ≤ 9223372036854775807) :
    Calls Tryd.prog 43 #[glV x A c] w (PuttedG x w) := by
  have H0 := Lib.hid (bxG_start w x A c)
  have HR := Lib.hid (gright_any x A c _ oi (hT.below (below_box w (.cells (glC x A c) 82))) hl)
  unfold PuttedG
  by_cases h0 : rG x = 0
  · rw [if_pos h0]
    have hz := (rG_zero h0).2
    have hcl := cputL_len oi hz
    have hsp : gputL x = encG x.t.toNat x.m ++ cputL x.i := rfl
    have HP := Lib.hid (fun W (hb : Below w.heap.size w W) => show Calls Tryd.prog 25 #[insV x.i A c] W fun e w' => ∃ v, e = .returned (.tuple #[v, .int .i64 0]) ∧ Row w' W.heap.size v (cputL x.i) ∧ Below W.heap.size W w' from
      (cput2_any x.i A c W oi (hT.below hb) hz).mono fun e w' ⟨v, h1, h2, h3⟩ => ⟨v, by rw [hz] at h1; exact h1, by rw [if_pos hz] at h2; exact h2, h3⟩)
    have HE := Lib.hid (fun W => encG_any x.t.toNat x.m W (by omega) (u8_le _))
    have he2 : (encG x.t.toNat x.m).length = 2 := rfl
    rw [h0] at HR ⊢
    rw [hsp]
    generalize cputL x.i = y at *
    generalize encG (x.t.toNat : Int) x.m = g at *
    have hgy : g.length + y.length ≤ 1000000 := by omega
    clear hz hcl hsp hT h0 oi hl
    go_enter Tryd.func43, Tryd.ntmps43
    go_wp2_with (first
      | (go_at_call 44; go_must ((with_reducible refine HR.out.mono ?_); rintro e w1 ⟨rfl, hb⟩; have H1 := Lib.hid (bxG_on H0.out hb); obtain ⟨c0, c1, c2, c3, c4, c5⟩ := H1.out.2; clear hb))
      | (go_at_call 25; go_must ((with_reducible refine (HP.out _ (bxG_bel H1.out)).mono ?_); intro e w2 hq; obtain ⟨v, rfl, hr, hb⟩ := hq; clear c0 c1 c2 c3 c4 c5; obtain ⟨A2, cp2, rfl, hpc⟩ := hr.pc; have HP2 := Lib.hid hpc; have H2 := Lib.hid (bxG_on H1.out hb); obtain ⟨c0, c1, c2, c3, c4, c5⟩ := H2.out.2; clear hb hr hpc))
      | (go_at_call 87; go_must ((with_reducible refine (HE.out _).mono ?_); intro e w3 hq; obtain ⟨v3, rfl, hr, hb⟩ := hq; have H3 := Lib.hid (bxG_on H2.out hb); have HP3 := Lib.hid (HP2.out.below hb); have HR3 := Lib.hid hr; have hz3 := hb.size; clear hb hr c0 c1 c2 c3 c4 c5))
      | (at_builtin; (refine row_any rfl _ _ rfl w2.heap.size _ g rfl HR3.out A2 y.length cp2 _ y rfl rfl HP3.out.lies HP3.out.nil hgy hz3 ?_; intro v4 w4 hr4 hb4; have HR4 := Lib.hid hr4; have HB4 := Lib.hid hb4; clear hr4 hb4)))
    go_ret2
    exact ⟨_, rfl, HR4.out.mono (bxG_bel H2.out).size, (bxG_bel H3.out).trans (HB4.out.mono (bxG_bel H2.out).size)⟩
  · rw [if_neg h0]
    have d0 : (rG x != 0) = true := zb_of (by simpa using h0)
    obtain ⟨z, hz⟩ : ∃ z, z = rG x := ⟨_, rfl⟩
    rw [← hz] at HR d0 ⊢
    clear h0 hz hT oi hl
    go_enter Tryd.func43, Tryd.ntmps43
    go_wp2_with (go_at_call 44; go_must ((with_reducible refine HR.out.mono ?_); rintro e w1 ⟨rfl, hb⟩; have H1 := Lib.hid (bxG_on H0.out hb); clear hb))
    go_ret2
    exact ⟨_, rfl, Row.nil _ _, bxG_bel H1.out⟩
set_option maxHeartbeats 8000000 in
theorem rput_gl (x : Gl) (A : Option Addr) (c : Nat) (w : World) (oi : x.i.Ok) (h0 : rG x = 0) :
    Calls Tryd.prog 48 #[glV x A c] w fun e w' => e = .returned (.string (S (gputL x))) ∧ Below w.heap.size w w' := by
  have hz := (rG_zero h0).2
  have H0 := Lib.hid (bxG_start w x A c)
  have hcl := cputL_len oi hz
  have HE := Lib.hid (fun W => refEncG_any x.t.toNat x.m W (by omega) (u8_le _))
  have HP := Lib.hid (fun W => show Calls Tryd.prog 28 #[insV x.i A c] W fun e w' => e = .returned (.string (S (cputL x.i))) ∧ Below W.heap.size W w' from rcput_any x.i A c W oi (cr_zero hz).1 (by rw [cz_nil hz]; intro j v hv; simp [cells32] at hv))
  have he2 : (encG x.t.toNat x.m).length = 2 := rfl
  have hsp : gputL x = encG x.t.toNat x.m ++ cputL x.i := rfl
  rw [hsp]
  generalize cputL x.i = y at *
  generalize encG (x.t.toNat : Int) x.m = g at *
  have sg := S_size g
  have sy := S_size y
  have q1 : ¬ 9223372036854775807 < (S g).size + (S y).size := by omega
  have HSA := Lib.hid (S_append g y)
  clear hz hcl hsp h0 oi sg sy he2
  go_enter Tryd.func48, Tryd.ntmps48
  go_wp2
  go_region_held3 (fun W => BxG w w.heap.size x A c W) (first | assumption | exact bxG_on H0.out (Below.refl _ _).drew)
    (first
      | (go_at_call 91; (with_reducible refine (HE.out _).mono ?_); rintro e w1 ⟨rfl, hb⟩; have hk1 := bxG_on ‹_› hb; clear hb)
      | (go_at_call 28; (with_reducible refine (HP.out _).mono ?_); rintro e w2 ⟨rfl, hb⟩; have hk2 := bxG_on ‹_› hb; clear hb))
  go_wp2
  go_ret
  exact ⟨by rw [← HSA.out]; rfl, bxG_bel hk2⟩
end Go.Proofs.YtebgmfjgapmpfaaDoor

/- Globals that lie somewhere; rows of globals of the call's own. -/
namespace Go.Proofs.YtebgmfjgapmpfaaDoor
open Go.RowKit
set_option linter.unusedVariables false
set_option maxRecDepth 100000

/-- A global and where its labels lie. -/
abbrev SlotG := Gl × Option Addr × Nat
abbrev sC (x : SlotG) : Array Value := glC x.1 x.2.1 x.2.2
abbrev sV (x : SlotG) : Value := .agg (sC x)
def sL (x : SlotG) : List Value := (sC x).toList
theorem infoGl : (Tryd.prog.info? 82).map (fun i => (i.zero, i.size, i.bytes)) = some (some (.agg glZ), 6, 56) := by kernel_rfl
/-- A row of globals of the call's own. -/
def RowG (W : World) (base : Nat) (v : Value) (rows : List SlotG) : Prop := W.ownsRow base 82 6 v rows.length (rows.flatMap sL)
theorem RowG.nil (W : World) (base : Nat) : RowG W base (.slice none 0 0) [] := World.ownsRow_nil W base _ 6
theorem RowG.slice {W : World} {base : Nat} {v : Value} {rows : List SlotG} (h : RowG W base v rows) : ∃ A c, v = .slice A rows.length c := by
  rcases h.2 with ⟨rfl, h0⟩ | ⟨g, cap, cur, rfl, _⟩
  · exact ⟨none, 0, by rw [h0]⟩
  · exact ⟨_, cap, rfl⟩
theorem RowG.past {W W' : World} {base b : Nat} {v : Value} {rows : List SlotG} (h : RowG W base v rows) (hg : W.grownBy W' (some b)) (hb : b < base) : RowG W' base v rows :=
  World.ownsRow.kept h hg (by
    cases hv : v.ownBlock with
    | none => exact .inl rfl
    | some k => exact .inr (by have := (World.ownsRow.lt h k hv).1; simp only [ne_eq, Option.some.injEq]; omega))
theorem RowG.later {W W' : World} {base : Nat} {v : Value} {rows : List SlotG} (h : RowG W base v rows) (hb : Below W.heap.size W W') : RowG W' base v rows :=
  World.ownsRow.kept h (gb_of_below none hb) (by cases v.ownBlock with
    | none => exact .inl rfl
    | some k => exact .inr (by simp))
theorem RowG.alloc {W : World} {base : Nat} {v : Value} {rows : List SlotG} (h : RowG W base v rows) (o : Obj) : RowG (W.alloc o) base v rows := World.ownsRow.alloc h o
theorem RowG.mono {W : World} {base base' : Nat} {v : Value} {rows : List SlotG} (h : RowG W base v rows) (hb : base' ≤ base) : RowG W base' v rows := by
  obtain ⟨h1, h2⟩ := h
  refine ⟨h1, ?_⟩
  rcases h2 with h2 | ⟨g, cap, cur, e, hg, r⟩
  · exact .inl h2
  · exact .inr ⟨g, cap, cur, e, Nat.le_trans hb hg, r⟩
/-- Nothing old has turned, and nothing of the row's own is lost. -/
theorem RowG.below {w W W' : World} {base : Nat} {v : Value} {rows : List SlotG} (h : RowG W base v rows) (hB : base ≤ W.heap.size) (hg : W.grownBy W' v.ownBlock) : Below base W W' :=
  Below.grown (Below.refl _ _) hg hB (fun k hk => (World.ownsRow.lt h k hk).1)

/-- The slice at A reads as these globals. -/
def Gs (w : World) (A : Option Addr) (l : List SlotG) : Prop :=
  ∀ j x, l[j]? = some x → ∃ b off, A = some ⟨b, off, none⟩ ∧ b < w.heap.size ∧ ∀ u, u < 6 → w.cell? ⟨b, off + j * 6 + u, none⟩ = (sL x)[u]?
theorem Gs.below {w w' : World} {A : Option Addr} {l : List SlotG} (h : Gs w A l) (hb : Below w.heap.size w w') : Gs w' A l := fun j x hx => by
  obtain ⟨b, off, e, h1, h2⟩ := h j x hx
  exact ⟨b, off, e, Nat.lt_of_lt_of_le h1 hb.size, fun u hu => (hb.cell (p := ⟨b, _, none⟩) h1).trans (h2 u hu)⟩
/-- The six cells of one of them, as a walk writes them. -/
abbrev SixAt (w : World) (b : Nat) (o : Nat) (x : SlotG) : Prop := w.cell? ⟨b, o, none⟩ = some (.int .u8 x.1.t.toNat) ∧ w.cell? ⟨b, o + 1, none⟩ = some (.bool x.1.m) ∧ w.cell? ⟨b, o + 2, none⟩ = some (.int .u8 x.1.i.op.toNat) ∧ w.cell? ⟨b, o + 3, none⟩ = some (.int .u64 x.1.i.a) ∧ w.cell? ⟨b, o + 4, none⟩ = some (.int .u64 x.1.i.b) ∧ w.cell? ⟨b, o + 5, none⟩ = some (.slice x.2.1 x.1.i.l.length x.2.2)
theorem Gs.six {w : World} {A : Option Addr} {l : List SlotG} (h : Gs w A l) {k : Nat} {x : SlotG} (hx : l[k]? = some x) : ∃ b off, A = some ⟨b, off, none⟩ ∧ b < w.heap.size ∧ SixAt w b (off + k * 6) x := by
  obtain ⟨b, off, e, h1, h2⟩ := h k x hx
  exact ⟨b, off, e, h1, h2 0 (by omega), h2 1 (by omega), h2 2 (by omega), h2 3 (by omega), h2 4 (by omega), h2 5 (by omega)⟩
theorem flatG_get : ∀ (l : List SlotG) (j : Nat) (x : SlotG) (u : Nat), l[j]? = some x → u < 6 → (l.flatMap sL)[j * 6 + u]? = (sL x)[u]?
  | [], j, x, u, h, _ => by cases h
  | y :: l, 0, x, u, h, hu => by
    injection h with h
    subst h
    rw [List.flatMap_cons, Nat.zero_mul, Nat.zero_add, List.getElem?_append_left (by show u < 6; exact hu)]
  | y :: l, j + 1, x, u, h, hu => by
    rw [List.flatMap_cons, List.getElem?_append_right (by show 6 ≤ _; omega)]
    have e : (j + 1) * 6 + u - (sL y).length = j * 6 + u := by show (j + 1) * 6 + u - 6 = _; omega
    rw [e]
    exact flatG_get l j x u h hu
/-- What a row of globals reads as. -/
theorem RowG.gs {W : World} {base : Nat} {A : Option Addr} {n c : Nat} {rows : List SlotG} (h : RowG W base (.slice A n c) rows) : Gs W A rows := fun j x hx => by
  have hj := (List.getElem?_eq_some_iff.1 hx).1
  rcases h.2 with ⟨_, h0⟩ | ⟨g, cap, cur, e, _, hg, _, _, _, ht⟩
  · omega
  · injection e with e1 e2 e3
    exact ⟨g, 0, e1, (Array.getElem?_eq_some_iff.1 hg).1, fun u hu => by
      rw [cell_of_row W g (0 + j * 6 + u) cur _ _ hg, ← flatG_get rows j x u hx hu, ← ht, List.getElem?_take, if_pos (by omega)]
      simp⟩
end Go.Proofs.YtebgmfjgapmpfaaDoor

/- globals.PutAll. -/
namespace Go.Proofs.YtebgmfjgapmpfaaDoor
open Go.RowKit
set_option linter.unusedVariables false
set_option maxRecDepth 100000

/-- May it be? Its bytes. -/
def rS (x : SlotG) : Int := rG x.1
noncomputable def sputL (x : SlotG) : List UInt8 := gputL x.1
def PuttedS (x : SlotG) (w : World) (e : Ending) (w' : World) : Prop := ∃ v, e = .returned (.tuple #[v, .int .i64 (rS x)]) ∧ Row w' w.heap.size v (if rS x = 0 then sputL x else []) ∧ Below w.heap.size w w'
/-- The numbers are what their kinds hold. -/
def OkG (l : List SlotG) : Prop := ∀ x ∈ l, x.1.i.Ok ∧ (x.1.i.l.length : Int) ≤ 9223372036854775807
theorem put_s (x : SlotG) (w : World) (hT : Tabs w) (h : x.1.i.Ok ∧ (x.1.i.l.length : Int) ≤ 9223372036854775807) : Calls Tryd.prog 43 #[sV x] w (PuttedS x w) := put_gl x.1 x.2.1 x.2.2 w h.1 hT h.2
theorem sputL_len {x : SlotG} (h : x.1.i.Ok ∧ (x.1.i.l.length : Int) ≤ 9223372036854775807) (h0 : rS x = 0) : 3 ≤ (sputL x).length ∧ (sputL x).length ≤ 34 := gputL_len h.1 h0
/-- The first error. -/
def errG : List SlotG → Int
  | [] => 0
  | x :: r => if rS x ≠ 0 then rS x else errG r
theorem errG_app : ∀ a b : List SlotG, errG (a ++ b) = if errG a ≠ 0 then errG a else errG b
  | [], b => by simp [errG]
  | x :: a, b => by
    simp only [List.cons_append, errG]
    by_cases h : rS x = 0
    · simp only [h, ne_eq, not_true_eq_false, if_false, errG_app a b]
    · simp [h]
theorem errG_snoc {l : List SlotG} {k : Nat} {x : SlotG} (h : l[k]? = some x) : errG (l.take (k + 1)) = if errG (l.take k) ≠ 0 then errG (l.take k) else rS x := by
  rw [List.take_add_one, h]
  show errG (l.take k ++ [x]) = _
  rw [errG_app]
  by_cases e : rS x = 0 <;> simp [errG, e]
theorem errG_bad {l : List SlotG} {k : Nat} (h : errG (l.take k) ≠ 0) : errG l = errG (l.take k) := by
  conv => lhs; rw [← List.take_append_drop k l]
  rw [errG_app, if_pos h]
theorem errG_mem : ∀ {l : List SlotG}, errG l = 0 → ∀ x ∈ l, rS x = 0
  | [], _, x, hx => by cases hx
  | y :: l, h, x, hx => by
    simp only [errG] at h
    by_cases e : rS y = 0
    · simp only [e, ne_eq, not_true_eq_false, if_false] at h
      rcases List.mem_cons.1 hx with rfl | hx
      · exact e
      · exact errG_mem h x hx
    · simp [e] at h
/-- Many globals' bytes. -/
noncomputable def gputsL (l : List SlotG) : List UInt8 := l.flatMap sputL
theorem gputsL_snoc {l : List SlotG} {k : Nat} {x : SlotG} (h : l[k]? = some x) : gputsL (l.take (k + 1)) = gputsL (l.take k) ++ sputL x := by
  unfold gputsL
  rw [List.take_add_one, h, List.flatMap_append]
  simp
theorem gputsL_len : ∀ {l : List SlotG}, OkG l → errG l = 0 → (gputsL l).length ≤ l.length * 34
  | [], _, _ => by simp [gputsL]
  | x :: r, h, h0 => by
    have h4 := errG_mem h0 x (by simp)
    have h5 : errG r = 0 := by simpa [errG, h4] using h0
    have h1 := gputsL_len (l := r) (fun y hy => h y (List.mem_cons_of_mem _ hy)) h5
    have h2 := h x (by simp)
    have h3 := (sputL_len h2 h4).2
    unfold gputsL at h1 ⊢
    rw [List.flatMap_cons, List.length_append, List.length_cons]
    omega
noncomputable def allG (l : List SlotG) : List UInt8 := lebL l.length ++ gputsL l
/-- What PutAll hands back. -/
def PuttedAllG (l : List SlotG) (w : World) (e : Ending) (w' : World) : Prop := ∃ v, e = .returned (.tuple #[v, .int .i64 (errG l)]) ∧ Row w' w.heap.size v (if errG l = 0 then allG l else []) ∧ Below w.heap.size w w'
theorem cfGP (a : Array Value) (w : World) : (callFunc 43 a).run Tryd.prog w = .ok (.enter 43 a) w := by kernel_rfl
end Go.Proofs.YtebgmfjgapmpfaaDoor

/- globals.GetAll of any bytes; the laws' closures. -/
namespace Go.Proofs.YtebgmfjgapmpfaaDoor
open Go.RowKit
set_option linter.unusedVariables false
set_option maxRecDepth 100000

/-- Globals, one behind the other, behind those that are read. -/
noncomputable def gsK (l : List UInt8) : Nat → Nat → List Gl → Res (List Gl)
  | 0, q, acc => .ok acc q
  | n + 1, q, acc => (gR l q).bind fun x q2 => gsK l n q2 (acc ++ [x])
theorem gsK_more {l : List UInt8} {n j q : Nat} {acc : List Gl} (h : j < n) : gsK l (n - j) q acc = (gR l q).bind fun x q2 => gsK l (n - (j + 1)) q2 (acc ++ [x]) := by
  rw [show n - j = n - (j + 1) + 1 by omega]; rfl
/-- A list, and its end. -/
noncomputable def allR (l : List UInt8) (k : Nat) : Res (List Gl) := (countR l k).bind fun n k1 => (gsK l n.toNat k1 []).bind fun xs k2 => if k2 < l.length then .err 14 k2 else .ok xs k2
/-- Without its end. -/
noncomputable def itR (l : List UInt8) (k : Nat) : Res (List Gl) := (countR l k).bind fun n k1 => gsK l n.toNat k1 []
theorem itR_end (l : List UInt8) (k : Nat) : allR l k = (itR l k).bind fun xs k2 => if k2 < l.length then .err 14 k2 else .ok xs k2 := by
  unfold allR itR
  cases countR l k with
  | err c a => rw [Res.bind_err, Res.bind_err, Res.bind_err]
  | ok n k1 => rw [Res.bind_ok, Res.bind_ok]
/-- What holds at the head of GetAll's loop. -/
structure AInG (w : World) (p : Nat) (l : List UInt8) (k : Nat) (xs : List SlotG) (v : Value) (W : World) : Prop where
  sc : Sc W p l k
  g : w.grownBy W (some p)
  r : RowG W w.heap.size v xs
  tb : TbP p W
section
variable {w W W' : World} {p : Nat} {l : List UInt8} {k k' : Nat} {xs : List SlotG} {x : SlotG} {v v' : Value}
theorem AInG.step (h : AInG w p l k xs v W) (hp : p < w.heap.size) (hg : W.grownBy W' (some p)) (hs : Sc W' p l k') : AInG w p l k' xs v W' :=
  ⟨hs, gb_trans h.g hg, h.r.past hg hp, h.tb.self hg⟩
theorem AInG.alloc (h : AInG w p l k xs v W) (hp : p < w.heap.size) (o : Obj) : AInG w p l k xs v (W.alloc o) := h.step hp (gb_alloc (gb_refl _ _) o) (h.sc.alloc o)
theorem AInG.more (h : AInG w p l k xs v W) (hp : p < w.heap.size) (hg : W.grownBy W' v.ownBlock) (hr : RowG W' w.heap.size v' (xs ++ [x])) : AInG w p l k (xs ++ [x]) v' W' := by
  have hlt := World.ownsRow.lt h.r
  exact ⟨h.sc.grown hg (fun e => by have := hlt p e.symm; omega) (fun g e => by have := hlt g e; omega), gb_before h.g hg (fun g e => .inr (hlt g e).1), hr, h.tb.grown hg (fun g e => by have := hlt g e; omega)⟩
end
/-- The list that was read. -/
def GotAllG (p : Nat) (l : List UInt8) (r : Res (List Gl)) (w : World) (e : Ending) (w' : World) : Prop := match r with
  | .ok xs k => ∃ v rows, e = .returned v ∧ RowG w' w.heap.size v rows ∧ rows.map (·.1) = xs ∧ Sc w' p l k ∧ w.grownBy w' (some p)
  | .err c a => e = .panicked (stopP c a) ∧ w.grownBy w' (some p)
theorem cfGG (a : Array Value) (w : World) : (callFunc 47 a).run Tryd.prog w = .ok (.enter 47 a) w := by kernel_rfl
end Go.Proofs.YtebgmfjgapmpfaaDoor

/- creelref12.GetAll of any bytes; creelref12.Same. -/
namespace Go.Proofs.YtebgmfjgapmpfaaDoor
open Go.RowKit
set_option linter.unusedVariables false
set_option maxRecDepth 100000

/-- What holds at the head of the reference's loop. -/
structure BInG (w : World) (q : Nat) (l : List UInt8) (s : RSt) (xs : List SlotG) (v : Value) (W : World) : Prop where
  rs : Rs W q l s
  g : w.grownBy W (some q)
  r : RowG W w.heap.size v xs
section
variable {w W W' : World} {q : Nat} {l : List UInt8} {s s' : RSt} {xs : List SlotG} {x : SlotG} {v v' : Value}
theorem BInG.step (h : BInG w q l s xs v W) (hq : q < w.heap.size) (hg : W.grownBy W' (some q)) (hs : Rs W' q l s') : BInG w q l s' xs v W' :=
  ⟨hs, gb_trans h.g hg, h.r.past hg hq⟩
theorem BInG.alloc (h : BInG w q l s xs v W) (hq : q < w.heap.size) (o : Obj) : BInG w q l s xs v (W.alloc o) := h.step hq (gb_alloc (gb_refl _ _) o) (h.rs.alloc o)
theorem BInG.more (h : BInG w q l s xs v W) (hq : q < w.heap.size) (hg : W.grownBy W' v.ownBlock) (hr : RowG W' w.heap.size v' (xs ++ [x])) : BInG w q l s (xs ++ [x]) v' W' := by
  have hlt := World.ownsRow.lt h.r
  exact ⟨h.rs.grown hg (fun e => by have := hlt q e.symm; omega) (fun g e => by have := hlt g e; omega), gb_before h.g hg (fun g e => .inr (hlt g e).1), hr⟩
end
/-- How far the list is. -/
def GInv (l : List UInt8) (n j : Nat) (s : RSt) (rows : List SlotG) (R : Res (List Gl)) : Prop := match s with
  | .at k => gsK l (n - j) k (rows.map (·.1)) = R
  | .bad c a => R = .err c a
theorem GInv.step {l : List UInt8} {n j k : Nat} {rows : List SlotG} {R : Res (List Gl)} (h : GInv l n j (.at k) rows R) (hlt : j < n) {x : Gl} {A : Option Addr} {c : Nat} (hv : ∀ y k2, gR l k = .ok y k2 → x = y) :
    GInv l n (j + 1) (stOf (gR l k)) (rows ++ [(x, A, c)]) R := by
  have h1 : gsK l (n - j) k (rows.map (·.1)) = R := h
  rw [gsK_more hlt] at h1
  cases hg : gR l k with
  | err c a =>
    rw [hg, Res.bind_err] at h1
    exact h1.symm
  | ok y k2 =>
    rw [hg, Res.bind_ok] at h1
    obtain rfl := hv y k2 hg
    show gsK l (n - (j + 1)) k2 ((rows ++ [(x, A, c)]).map (·.1)) = R
    rw [List.map_append]
    exact h1
/-- What creelref12.GetAll leaves behind. -/
def RGotAllG (q : Nat) (l : List UInt8) (r : Res (List Gl)) (w : World) (e : Ending) (w' : World) : Prop := match r with
  | .ok xs k => ∃ v rows, e = .returned v ∧ RowG w' w.heap.size v rows ∧ rows.map (·.1) = xs ∧ Rs w' q l (.at k) ∧ w.grownBy w' (some q)
  | .err c a => e = .returned (.slice none 0 0) ∧ Rs w' q l (.bad c a) ∧ w.grownBy w' (some q)
/-- Same, of two that are alike and have no labels. -/
theorem rsame_gl {w : World} {x : Gl} {A B : Option Addr} {c d : Nat} (hx : x.i.l = []) :
    Calls Tryd.prog 49 #[glV x A c, glV x B d] w (BoolPost true w) := by
  have H1 := bxG_start w x A c
  have hb2 : Below w.heap.size w ((w.alloc (.cells (glC x A c) 82)).alloc (.cells (glC x B d) 82)) := (below_box w _).alloc (by simp) _
  have hS := refSame_any (w := (w.alloc (.cells (glC x A c) 82)).alloc (.cells (glC x B d) 82)) (A := A) (B := B) (c := c) (d := d) (i := x.i) (k := x.i) (by rw [hx]; intro j v hv; simp [cells32] at hv) (by rw [hx]; intro j v hv; simp [cells32] at hv) (by rw [hx]; simp) (by rw [hx]; simp)
  rw [same_self] at hS
  have HS := Lib.hid hS
  have HB := Lib.hid hb2
  clear hS hb2 H1 hx
  go_enter Tryd.func49, Tryd.ntmps49
  go_wp2_with (go_at_call 15; go_must ((with_reducible refine HS.out.mono ?_); rintro e w2 ⟨rfl, hb⟩; have HB2 := Lib.hid hb; clear hb))
  go_ret
  exact ⟨rfl, HB.out.trans (HB2.out.mono HB.out.size)⟩
end Go.Proofs.YtebgmfjgapmpfaaDoor
