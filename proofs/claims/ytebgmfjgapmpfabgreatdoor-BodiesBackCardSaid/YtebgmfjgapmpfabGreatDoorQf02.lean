/- instr.Put. -/
import Derived.Test.YtebgmfjgapmpfabGreatDoorQf01
import Derived.Test.YtebgmfjgapmpfabGreatDoorQe01
import Derived.Test.YtebgmfjgapmpfabGreatDoorQe05
namespace Go.Proofs.YtebgmfjgapmpfabGreatDoor
open Go.RowKit
set_option linter.unusedVariables false
set_option maxRecDepth 100000

/-- A row of the call's own lies; where it lies nowhere it has no room. -/
theorem Row.liesN {w : World} {base : Nat} {v : Value} {xs : List UInt8} (h : Row w base v xs) : ∃ A c, v = .slice A xs.length c ∧ Lies w w.heap.size A (cells (nums xs)) ∧ (A = none → c = 0) ∧ xs.length ≤ c ∧ c ≤ maxLen := by
  have h' := h
  obtain ⟨h1, h2⟩ := h
  obtain ⟨A, c, e, h3, h4, h5, _⟩ := lies_own h'
  refine ⟨A, c, e, h5, fun hA => ?_, h3, h4⟩
  rcases h2 with ⟨e2, _⟩ | ⟨g, cap, cur, e2, _⟩
  · rw [e] at e2
    injection e2
  · rw [e] at e2
    injection e2 with e2
    rw [hA] at e2
    cases e2
/-- What Put hands back. -/
def PutPost (i : I) (w : World) (e : Ending) (w' : World) : Prop :=
  ∃ v, e = .returned (.tuple #[v, .int .i64 (rightZ i)]) ∧ Row w' w.heap.size v (if rightZ i = 0 then putL i else []) ∧ Below w.heap.size w w'
theorem put_no {i : I} {w w' : World} (h : rightZ i ≠ 0) (hb : Below w.heap.size w w') : PutPost i w (.returned (.tuple #[.slice none 0 0, .int .i64 (rightZ i)])) w' :=
  ⟨_, rfl, by rw [if_neg h]; exact Row.nil _ _, hb⟩
theorem immL_len {i : I} (h : i.Ok) (hr : rightZ i = 0) : (immL i).length ≤ 200000 := by
  obtain ⟨a0, a1, b0, b1, hl0⟩ := h
  obtain ⟨_, _, h10, _, _⟩ := right_zero hr
  have k1 := lebL_len i.a (by omega)
  have k2 := lebL_len i.b (by omega)
  have k3 := lebL_len (i.l.length : Int) (by omega)
  have k4 := labsL_take_len i.l hl0 i.l.length h10
  rw [List.take_length] at k4
  have k5 := sebL_len (s32 i.a) (by unfold s32; omega) (by unfold s32; omega)
  have k6 := sebL_len (s64 i.a) (by unfold s64; omega) (by unfold s64; omega)
  unfold immL immB labL
  repeat' split
  all_goals (try simp only [List.length_append, List.length_cons, List.length_nil])
  all_goals omega
theorem nums_one (c : UInt8) : cells (nums [c]) = [.int .u8 c.toNat] := rfl
theorem catenate {W : World} {op : UInt8} {g g1 : Nat} {A1 : Option Addr} {c1 : Nat} {l2 : List UInt8} (hg : Whole W g 32 #[.slice (some ⟨g1, 0, none⟩) 1 1, .slice A1 l2.length c1])
    (h1 : Whole W g1 5 #[.int .u8 op.toNat]) (h2 : Lies W W.heap.size A1 (cells (nums l2))) (hA : A1 = none → c1 = 0) (n2 : l2.length ≤ 200000) :
    Calls Tryz.prog 114 #[.slice (some ⟨g, 0, none⟩) 2 2] W (BytesL (op :: l2) W) := by
  refine concat_any (l1 := [op]) (c1 := 1) hg ?_ h2 hA (by simp) (by simp; omega)
  intro j v hv
  rw [nums_one] at hv
  refine ⟨g1, 0, rfl, h1.lt, ?_⟩
  rw [h1.cell]
  simpa using hv

theorem put_yes {i : I} {w w' : World} {x : List UInt8} {v : Value} (h : rightZ i = 0) (hp : putL i = i.op :: x) (hr : Row w' w.heap.size v (i.op :: x)) (hb : Below w.heap.size w w') : PutPost i w (.returned (.tuple #[v, .int .i64 0])) w' :=
  ⟨v, by rw [h], by rw [if_pos h, hp]; exact hr, hb⟩
theorem size_box (w : World) (o : Obj) : (w.alloc o).heap.size = w.heap.size + 1 := by simp
theorem lies_box {w : World} {A : Option Addr} {vs : List Value} (h : Lies w w.heap.size A vs) (o : Obj) : Lies (w.alloc o) (w.alloc o).heap.size A vs :=
  (h.below (below_box w o) (Nat.le_refl _)).more (below_box w o).size
theorem cat2 {W : World} {op : UInt8} {g1 H : Nat} {A2 : Option Addr} {k2 : Nat} {x : List UInt8} (hH : W.heap.size = H) (h1 : Whole W g1 5 #[.int .u8 op.toNat]) (hl : Lies W W.heap.size A2 (cells (nums x))) (hA : A2 = none → k2 = 0) (hn : x.length ≤ 200000) :
    Calls Tryz.prog 114 #[.slice (some ⟨H, 0, none⟩) 2 2] (W.alloc (.cells #[.slice (some ⟨g1, 0, none⟩) 1 1, .slice A2 x.length k2] 32)) (BytesL (op :: x) (W.alloc (.cells #[.slice (some ⟨g1, 0, none⟩) 1 1, .slice A2 x.length k2] 32))) := by
  subst hH
  exact catenate (op := op) (Whole.made _ _ _) (h1.alloc _) (lies_box hl _) hA hn
section
variable {w W W' : World} {i : I} {A : Option Addr} {c : Nat}
theorem held5 (h : BoxI w W i A c) : BoxI w W i A c ∧ W.cell? ⟨w.heap.size, 0, none⟩ = some (.int .u8 i.op.toNat) ∧ W.cell? ⟨w.heap.size, 1, none⟩ = some (.int .u64 i.a) ∧ W.cell? ⟨w.heap.size, 2, none⟩ = some (.int .u64 i.b) ∧ W.cell? ⟨w.heap.size, 3, none⟩ = some (.slice A i.l.length c) :=
  ⟨h, h.c0, h.c1, h.c2, h.c3⟩
theorem held_on (h : BoxI w W i A c ∧ W.cell? ⟨w.heap.size, 0, none⟩ = some (.int .u8 i.op.toNat) ∧ W.cell? ⟨w.heap.size, 1, none⟩ = some (.int .u64 i.a) ∧ W.cell? ⟨w.heap.size, 2, none⟩ = some (.int .u64 i.b) ∧ W.cell? ⟨w.heap.size, 3, none⟩ = some (.slice A i.l.length c)) (hb : Below W.heap.size W W') : BoxI w W' i A c ∧ W'.cell? ⟨w.heap.size, 0, none⟩ = some (.int .u8 i.op.toNat) ∧ W'.cell? ⟨w.heap.size, 1, none⟩ = some (.int .u64 i.a) ∧ W'.cell? ⟨w.heap.size, 2, none⟩ = some (.int .u64 i.b) ∧ W'.cell? ⟨w.heap.size, 3, none⟩ = some (.slice A i.l.length c) := held5 (h.1.on hb)
theorem held_bel (h : BoxI w W i A c ∧ W.cell? ⟨w.heap.size, 0, none⟩ = some (.int .u8 i.op.toNat) ∧ W.cell? ⟨w.heap.size, 1, none⟩ = some (.int .u64 i.a) ∧ W.cell? ⟨w.heap.size, 2, none⟩ = some (.int .u64 i.b) ∧ W.cell? ⟨w.heap.size, 3, none⟩ = some (.slice A i.l.length c)) : Below w.heap.size w W := h.1.2
end
set_option maxHeartbeats 1000000 in
theorem put_any (i : I) (A : Option Addr) (c : Nat) (w : World) (h : i.Ok) (hT : Tabs w) (hl : Lies w w.heap.size A (cells32 i.l)) (hl63 : (i.l.length : Int) ≤ 9223372036854775807) :
    Calls Tryz.prog 92 #[insV i A c] w (PutPost i w) := by
  have HB := Lib.hid (BoxI.start w i A c)
  have HT1 := Lib.hid (hT.below HB.out.2)
  have HR := Lib.hid (right_any i A c (w.alloc (.cells (insC i A c) 59)) h HT1.out hl63)
  by_cases hr : rightZ i = 0
  · have HIM := Lib.hid (fun W (hb : Below w.heap.size w W) => imm_bytes i A c W h (hT.below hb) hr ((hl.below hb (Nat.le_refl _)).more hb.size))
    have hlen := immL_len h hr
    have HP := Lib.hid (show putL i = i.op :: immL i from rfl)
    have HZ := Lib.hid hr
    rw [hr] at HR
    generalize immL i = x at *
    clear h hT hl hr
    go_enter Tryz.func92, Tryz.ntmps92
    go_wp2_with (go_at_call 121; go_must ((with_reducible refine HR.out.mono ?_); rintro e w1 ⟨rfl, hb1⟩; have HB1 := Lib.hid (HB.out.on hb1); have c0 := HB1.out.c0; have c1 := HB1.out.c1; have c2 := HB1.out.c2; have c3 := HB1.out.c3; clear hb1))
    clear c0 c1 c2 c3
    go_region_held3 (fun W => BoxI w W i A c ∧ W.cell? ⟨w.heap.size, 0, none⟩ = some (.int .u8 i.op.toNat) ∧ W.cell? ⟨w.heap.size, 1, none⟩ = some (.int .u64 i.a) ∧ W.cell? ⟨w.heap.size, 2, none⟩ = some (.int .u64 i.b) ∧ W.cell? ⟨w.heap.size, 3, none⟩ = some (.slice A i.l.length c))
      (first | assumption | exact held5 (HB1.out.drewN 1) | exact held5 ((HB1.out.on (below_box _ _)).drewN 1) | exact held_on HK2.out (below_box _ _) | exact held_on (held_on HK2.out (below_box _ _)) (below_box _ _) | exact held_on HK4.out (below_box _ _))
      (first
        | (go_at_call 122; ((with_reducible refine (HIM.out _ (held_bel ‹_›)).mono ?_); intro e w2 h; obtain ⟨v2, rfl, hr2, hb2⟩ := h; obtain ⟨A2, k2, rfl, hl2, hA2, _⟩ := hr2.liesN; have hk2 := held_on ‹_› hb2; have HL2 := Lib.hid hl2; have HA2 := Lib.hid hA2; have HB2 := Lib.hid hb2; have HK2 := Lib.hid hk2; clear hl2 hA2 hr2 hb2))
        | (go_at_call 114; first
            | ((with_reducible refine (cat2 (op := i.op) (g1 := w1.heap.size) (W := w2) rfl ((Whole.made w1 5 #[.int .u8 i.op.toNat]).drew.below HB2.out) HL2.out HA2.out hlen).mono ?_); intro e w4 h; obtain ⟨v4, rfl, hr4, hb4⟩ := h; have hk4 := held_on (held_on HK2.out (below_box _ _)) hb4; have HR4 := Lib.hid hr4; have HK4 := Lib.hid hk4; have hz4 := HK2.out.1.2.size; clear hr4 hb4)
            | ((with_reducible refine (cat2 (op := i.op) (g1 := w2.heap.size) (W := w2.alloc (.cells #[.int .u8 i.op.toNat] 5)) (size_box _ _) (Whole.made w2 5 #[.int .u8 i.op.toNat]) (lies_box HL2.out _) HA2.out hlen).mono ?_); intro e w4 h; obtain ⟨v4, rfl, hr4, hb4⟩ := h; have hk4 := held_on (held_on (held_on HK2.out (below_box _ _)) (below_box _ _)) hb4; have HR4 := Lib.hid hr4; have HK4 := Lib.hid hk4; have hz4 := HK2.out.1.2.size; clear hr4 hb4)))
    all_goals
      go_wp2
      go_ret2
      exact put_yes HZ.out HP.out (HR4.out.mono (by simp; omega)) HK4.out.1.2
  · have HZ := Lib.hid hr
    have dz : (rightZ i != 0) = true := by simpa using hr
    generalize hz : rightZ i = z at *
    clear h hT hl hr HT1
    go_enter Tryz.func92, Tryz.ntmps92
    go_wp2_with (go_at_call 121; go_must ((with_reducible refine HR.out.mono ?_); rintro e w1 ⟨rfl, hb1⟩; have HB1 := Lib.hid (HB.out.on hb1); clear hb1))
    subst hz
    go_ret2
    exact put_no HZ.out HB1.out.2
end Go.Proofs.YtebgmfjgapmpfabGreatDoor

/- Few laws that every layer wants: strings of bytes that lie somewhere, boxes, fields; wire.Size. -/
namespace Go.Proofs.YtebgmfjgapmpfabGreatDoor
open Go.RowKit
set_option linter.unusedVariables false
set_option maxRecDepth 100000

theorem be_of {a : Nat} {b : Int} {c : Bool} (h : decide ((a : Int) = b) = c) : ((a : Int) == b) = c := by rw [← h]; rfl
theorem nb_of {a : Nat} {b : Int} {c : Bool} (h : decide ((a : Int) ≠ b) = c) : ((a : Int) != b) = c := by rw [← h]; by_cases e : (a : Int) = b <;> simp [bne, e]
theorem zb_of {a : Int} {c : Bool} (h : decide (a ≠ 0) = c) : (a != 0) = c := by rw [← h]; by_cases e : a = 0 <;> simp [bne, e]
theorem i8_of {a b : UInt8} (h : (a.toNat : Int) = b.toNat) : a = b := UInt8.toNat_inj.1 (by omega)
theorem i32_of {a b : UInt32} (h : (a.toNat : Int) = b.toNat) : a = b := UInt32.toNat_inj.1 (by omega)
theorem S_beqM (a b : List UInt8) : ((S a).toList == (S b).toList) = decide (a = b) := by rw [S_toList, S_toList]; by_cases h : a = b <;> simp [h]
theorem ret_pair {v : Value} {a b : Int} (h : a = b) : Ending.returned (.tuple #[v, .int .i64 a]) = .returned (.tuple #[v, .int .i64 b]) := by rw [h]
theorem u32_le (a : UInt32) : (a.toNat : Int) ≤ 4294967295 := by have := a.toNat_lt; omega
theorem u8_le (a : UInt8) : (a.toNat : Int) ≤ 255 := by have := a.toNat_lt; omega
theorem below_new {w w1 w2 : World} {q : Nat} (h : Below w.heap.size w w1) (hg : w1.grownBy w2 (some q)) (hq : w.heap.size ≤ q) : Below w.heap.size w w2 :=
  Below.grown h hg h.size (fun g e => by injection e with e; omega)
/-- A block of bytes that reads as it was made, marked or not. -/
theorem lies_made (w : World) (xs : List UInt8) (fz : Nat × Nat) : Lies (w.alloc (.cells (cells (nums xs)).toArray 5 fz)) (w.heap.size + 1) (some ⟨w.heap.size, 0, none⟩) (cells (nums xs)) := fun i v hv => by
  refine ⟨w.heap.size, 0, rfl, by omega, ?_⟩
  rw [Nat.zero_add, cell_of_row _ w.heap.size i _ _ fz (heap_alloc_new w _)]
  simpa using hv
theorem made_2 (w : World) (o : Obj) (t : TypeId) (cs : Array Value) : Whole ((w.alloc o).alloc (.cells cs t)) (w.heap.size + 1) t cs := by
  have h := Whole.made (w.alloc o) t cs
  rwa [size_box] at h
/-- string(b) of whatever lies. -/
theorem str_any {w : World} {B : Nat} {A : Option Addr} {o : List UInt8} (h : Lies w B A (cells (nums o))) (c : Nat) :
    ∀ dst, Tryz.prog.underlying dst = some .string → (convert 32 dst (.slice A o.length c)).run Tryz.prog w = .ok (.string (S o)) w := by
  by_cases h0 : 0 < (nums o).length
  · have := str_lies h h0 c Tryz.underlying32 Tryz.underlying5
    rw [strOfNums_nums, nums_length] at this
    exact this
  · have ho : o = [] := List.eq_nil_of_length_eq_zero (by rw [nums_length] at h0; omega)
    subst ho
    intro dst hd
    rw [run_convert_bytes_string w _ dst 5 _ _ c Tryz.underlying32 Tryz.underlying5 hd]
    have e : S [] = ByteArray.empty := rfl
    rw [e]
    cases A <;> simp [Conv.bytesToString, loadCells]
    all_goals rfl
/-- Bytes that lie somewhere in this world; whose slice is nil only without room. -/
structure Pc (A : Option Addr) (c : Nat) (l : List UInt8) (w : World) : Prop where
  lies : Lies w w.heap.size A (cells (nums l))
  nil : A = none → c = 0
theorem Pc.below {A : Option Addr} {c : Nat} {l : List UInt8} {w w' : World} (h : Pc A c l w) (hb : Below w.heap.size w w') : Pc A c l w' := ⟨(h.lies.below hb (Nat.le_refl _)).more hb.size, h.nil⟩
theorem Pc.from {A : Option Addr} {c : Nat} {l : List UInt8} {w w' : World} {B : Nat} (h : Lies w B A (cells (nums l))) (hn : A = none → c = 0) (hB : B ≤ w.heap.size) (hb : Below w.heap.size w w') : Pc A c l w' := ⟨(h.below hb hB).more (Nat.le_trans hB hb.size), hn⟩
theorem Row.pc {w : World} {B : Nat} {v : Value} {xs : List UInt8} (h : Row w B v xs) : ∃ A c, v = .slice A xs.length c ∧ Pc A c xs w := by
  have h' := h
  obtain ⟨h1, h2⟩ := h
  obtain ⟨A, c, e, h3, h4, h5, _⟩ := lies_own h'
  refine ⟨A, c, e, h5, fun hA => ?_⟩
  rcases h2 with ⟨e2, _⟩ | ⟨g, cap, cur, e2, _⟩
  · rw [e] at e2
    injection e2
  · rw [e, hA] at e2
    injection e2 with e3
    cases e3
theorem Pc.room {A : Option Addr} {c : Nat} {l : List UInt8} {w : World} (h : Pc A c l w) : A = none → c = 0 := h.nil
end Go.Proofs.YtebgmfjgapmpfabGreatDoor

/- How far a body has come: nest's add, turn, close. -/
namespace Go.Proofs.YtebgmfjgapmpfabGreatDoor
open Go.RowKit
set_option linter.unusedVariables false
set_option maxRecDepth 100000

/-- Are the opcodes the rest of a body in which these blocks are open? -/
def shapeGo : List UInt8 → List UInt8 → Bool
  | st, [] => false
  | st, op :: r =>
    if immR op.toNat = 1 then shapeGo (st ++ [op]) r
    else if op = 5 then (if st.getLast? = some 4 then shapeGo (st.dropLast ++ [5]) r else false)
    else if op = 11 then (if st = [] then r.isEmpty else shapeGo st.dropLast r)
    else shapeGo st r
/-- One more: the open blocks, and is it the end of all? -/
def addZ (st : List UInt8) (op : UInt8) : Option (List UInt8 × Bool) :=
  if immR op.toNat = 1 then some (st ++ [op], false)
  else if op = 5 then (if st.getLast? = some 4 then some (st.dropLast ++ [5], false) else none)
  else if op = 11 then (if st = [] then some (st, true) else some (st.dropLast, false))
  else some (st, false)
theorem shape_add (st : List UInt8) (op : UInt8) (r : List UInt8) : shapeGo st (op :: r) = match addZ st op with
    | none => false
    | some (st', false) => shapeGo st' r
    | some (st', true) => r.isEmpty := by
  unfold addZ
  show (if immR op.toNat = 1 then _ else _) = _
  by_cases h1 : immR op.toNat = 1
  · rw [if_pos h1, if_pos h1]
  · rw [if_neg h1, if_neg h1]
    by_cases h2 : op = 5
    · rw [if_pos h2, if_pos h2]
      by_cases h3 : st.getLast? = some 4
      · rw [if_pos h3, if_pos h3]
      · rw [if_neg h3, if_neg h3]
    · rw [if_neg h2, if_neg h2]
      by_cases h3 : op = 11
      · rw [if_pos h3, if_pos h3]
        by_cases h4 : st = []
        · rw [if_pos h4, if_pos h4]
        · rw [if_neg h4, if_neg h4]
      · rw [if_neg h3, if_neg h3]
theorem Row.cut {w : World} {base : Nat} {A : Option Addr} {n c : Nat} {xs : List UInt8} (h : Row w base (.slice A n c) xs) (hne : xs ≠ []) : ∃ g, A = some ⟨g, 0, none⟩ ∧ n = xs.length ∧ base ≤ g ∧ g < w.heap.size ∧ Row w base (.slice A (n - 1) c) xs.dropLast ∧ xs.length ≤ c ∧ c ≤ maxLen := by
  obtain ⟨h1, h2⟩ := h
  rcases h2 with ⟨e, e2⟩ | ⟨g, cap, cur, e, hb, hg, hc, hm, hs, ht⟩
  · exact absurd (List.eq_nil_of_length_eq_zero e2) hne
  · injection e with e1 e2 e3
    subst e1; subst e2; subst e3
    have hl : 0 < xs.length := List.length_pos_iff.2 hne
    refine ⟨g, rfl, rfl, hb, (Array.getElem?_eq_some_iff.1 hg).1, ⟨by rw [cells_length, nums_length]; omega, .inr ⟨g, c, cur, by rw [List.length_dropLast], hb, hg, by rw [List.length_dropLast]; omega, hm, hs, ?_⟩⟩, hc, hm⟩
    rw [List.length_dropLast]
    have : cur.toList.take ((xs.length - 1) * 1) = (cur.toList.take (xs.length * 1)).take (xs.length - 1) := by rw [List.take_take]; congr 1; omega
    rw [this, ht]
    unfold cells nums
    rw [← List.map_take, ← List.map_take, List.dropLast_eq_take]
theorem Row.last {w : World} {base : Nat} {g c : Nat} {xs : List UInt8} (h : Row w base (.slice (some ⟨g, 0, none⟩) xs.length c) xs) {x : UInt8} (hx : xs.getLast? = some x) : w.cell? ⟨g, xs.length - 1, none⟩ = some (.int .u8 x.toNat) ∧ w.frozen? ⟨g, xs.length - 1, none⟩ = false ∧
    ∀ y : UInt8, Row (w.setCell ⟨g, xs.length - 1, none⟩ (.int .u8 y.toNat)) base (.slice (some ⟨g, 0, none⟩) xs.length c) (xs.dropLast ++ [y]) ∧ w.grownBy (w.setCell ⟨g, xs.length - 1, none⟩ (.int .u8 y.toNat)) (some g) := by
  have hne : xs ≠ [] := fun e => by rw [e] at hx; cases hx
  have hl : 0 < xs.length := List.length_pos_iff.2 hne
  have hxi : xs[xs.length - 1]? = some x := by rw [← hx, List.getLast?_eq_getElem?]
  obtain ⟨A, c', e, hli, _⟩ := h.liesN
  injection e with e1 e2 e3
  subst e1
  obtain ⟨b, off, e4, _, hc⟩ := hli (xs.length - 1) (.int .u8 x.toNat) (by unfold cells nums; rw [List.map_map, List.getElem?_map, hxi]; rfl)
  injection e4 with e4
  injection e4 with e5 e6
  subst e5; subst e6
  rw [Nat.zero_add] at hc
  have hfr : w.frozen? ⟨g, xs.length - 1, none⟩ = false := by
    rcases h.2 with ⟨e, _⟩ | ⟨g', cap, cur, e, hb, hg, _⟩
    · cases e
    · injection e with e1 _ _
      injection e1 with e1
      injection e1 with e1
      subst e1
      exact frozen_of_row w _ _ cur _ hg
  refine ⟨hc, hfr, fun y => ?_⟩
  obtain ⟨h1, h2⟩ := World.ownsRow.stored h (xs.length - 1) (.int .u8 y.toNat)
  refine ⟨?_, h2⟩
  have e : (cells (nums xs)).set (xs.length - 1) (.int .u8 y.toNat) = cells (nums (xs.dropLast ++ [y])) := by
    have hd : xs = xs.dropLast ++ [x] := by
      obtain ⟨ys, rfl⟩ := List.getLast?_eq_some_iff.1 hx
      simp
    conv => lhs; rw [hd]
    unfold cells nums
    rw [List.map_append, List.map_append, List.map_append, List.map_append]
    rw [List.set_append_right _ _ (by simp)]
    simp
  unfold Row
  rw [← e]
  have hl2 : (xs.dropLast ++ [y]).length = xs.length := by simp; omega
  rw [hl2]
  exact h1
/-- What add leaves: nest's two cells, the row of open blocks. -/
def Added (nb base : Nat) (v : Value) (st : List UInt8) (en : Bool) (W : World) (e : Ending) (W' : World) : Prop :=
  e = .returned (.bool true) ∧ ∃ v' Wm, Whole W' nb 142 #[v', .bool en] ∧ Row W' base v' st ∧ W.grownBy Wm v.ownBlock ∧ Wm.grownBy W' (some nb)
theorem Row.apart {w : World} {base n nb : Nat} {a : Addr} {c : Nat} {xs : List UInt8} {t : TypeId} {cs : Array Value} (h : Row w base (.slice (some a) n c) xs) (hw : Whole w nb t cs) (hne : t ≠ 5) : nb ≠ a.block := by
  rcases h.2 with ⟨e, _⟩ | ⟨g, cap, cur, e, hb, hg, _⟩
  · cases e
  · injection e with e1 _ _
    injection e1 with e1
    subst e1
    exact hw.apart (show Whole w g 5 cur from hg) hne
section
variable {W : World} {nb base : Nat} {v : Value} {st : List UInt8}
theorem turn_no (hn : Whole W nb 142 #[v, .bool false]) (hr : Row W base v st) (hs : st.length ≤ 100000) (hno : st.getLast? ≠ some 4) :
    Calls Tryz.prog 134 #[.pointer (some ⟨nb, 0, none⟩)] W fun e W' => e = .returned (.bool false) ∧ W = W' := by
  obtain ⟨A, c, rfl, _⟩ := hr.liesN
  have c0 := hn.cell 0
  simp only [List.getElem?_toArray, List.getElem?_cons_zero] at c0
  by_cases h0 : st = []
  · subst h0
    clear hn hr
    go_enter Tryz.func134, Tryz.ntmps134
    go_wp2
    go_ret
    exact ⟨rfl, rfl⟩
  · obtain ⟨g, rfl, _, hbg, hglt, hcut, hc1, hc2⟩ := hr.cut h0
    obtain ⟨x, hx⟩ : ∃ x, st.getLast? = some x := by cases h : st.getLast? with
      | none => exact absurd (List.getLast?_eq_none_iff.1 h) h0
      | some x => exact ⟨x, rfl⟩
    obtain ⟨hcell, hfr, hset⟩ := hr.last hx
    have h4 : x ≠ 4 := fun e => hno (by rw [hx, e])
    have d4 : ((x.toNat : Int) != 4) = true := by
      have : x.toNat ≠ (4 : UInt8).toNat := fun e => h4 (UInt8.toNat_inj.1 e)
      have e4 : (4 : UInt8).toNat = 4 := rfl
      rw [e4] at this
      simp
      omega
    obtain ⟨n, hnn⟩ : ∃ n, st.length = n + 1 := ⟨st.length - 1, by have := List.length_pos_iff.2 h0; omega⟩
    rw [hnn] at c0 hcell hfr hs hc1
    rw [Nat.add_sub_cancel] at hcell hfr
    have e1 : ((n + 1 : Nat) : Int) - 1 = n := by omega
    clear hset hn hr hx hcut hnn hno
    unfold maxLen at hc2
    go_enter Tryz.func134, Tryz.ntmps134
    go_wp2
    go_ret
    exact ⟨rfl, rfl⟩
theorem turn_yes (hn : Whole W nb 142 #[v, .bool false]) (hr : Row W base v st) (hs : st.length ≤ 100000) (hx : st.getLast? = some 4) :
    Calls Tryz.prog 134 #[.pointer (some ⟨nb, 0, none⟩)] W (Added nb base v (st.dropLast ++ [5]) false W) := by
  obtain ⟨A, c, rfl, _⟩ := hr.liesN
  have c0 := hn.cell 0
  simp only [List.getElem?_toArray, List.getElem?_cons_zero] at c0
  have h0 : st ≠ [] := fun e => by rw [e] at hx; cases hx
  obtain ⟨g, rfl, _, hbg, hglt, hcut, hc1, hc2⟩ := hr.cut h0
  obtain ⟨hcell, hfr, hset⟩ := hr.last hx
  have HAP := Lib.hid (hr.apart hn (by decide))
  obtain ⟨n, hnn⟩ : ∃ n, st.length = n + 1 := ⟨st.length - 1, by have := List.length_pos_iff.2 h0; omega⟩
  rw [hnn] at c0 hcell hfr hs hc1 hset ⊢
  rw [Nat.add_sub_cancel] at hcell hfr hset
  have e1 : ((n + 1 : Nat) : Int) - 1 = n := by omega
  have e4 : ((4 : UInt8).toNat : Int) = 4 := rfl
  rw [e4] at hcell
  have HS := Lib.hid (hset 5)
  have HN := Lib.hid hn
  rw [hnn] at HN
  clear hset hn hr hx hcut hnn h0
  unfold maxLen at hc2
  go_enter Tryz.func134, Tryz.ntmps134
  go_wp2
  go_ret
  exact ⟨rfl, _, _, HN.out.far HAP.out _, HS.out.1, HS.out.2, gb_refl _ _⟩
end
end Go.Proofs.YtebgmfjgapmpfabGreatDoor

/- nest's close and add. -/
namespace Go.Proofs.YtebgmfjgapmpfabGreatDoor
open Go.RowKit
set_option linter.unusedVariables false
set_option maxRecDepth 100000

/-- What a step leaves: nest's two cells, the row of open blocks. -/
def Moved (nb base : Nat) (v : Value) (st : List UInt8) (en : Bool) (W W' : World) : Prop :=
  ∃ v' Wm, Whole W' nb 142 #[v', .bool en] ∧ Row W' base v' st ∧ W.grownBy Wm v.ownBlock ∧ Wm.grownBy W' (some nb)
/-- append of a new block of bytes: what is old stays, but for the row. -/
theorem row_newG {w : World} {ops : Array Oper} {rest : List Oper} {o : Oper} {a : Act} {Q : Exit → Act → World → Prop} (hgd : o.guard = none) (s x : Operand)
    (ho : o.op = .call { callee := .builtin .append, args := #[s, x], argTypes := #[32, 32] })
    (B : Nat) (v : Value) (xs : List UInt8) (hs : a.eval s = v) (hr : Row w B v xs)
    (g m : Nat) (news : List UInt8) (hx : a.eval x = .slice (some ⟨g, 0, none⟩) m m) (hl : news.length = m) (hg : w.heap[g]? = some (.cells (cells (nums news)).toArray 5 (0, 0)))
    (hm : 0 < m) (hb : xs.length + news.length ≤ 1000000) (hB : B ≤ w.heap.size)
    (h : ∀ v' w', Row w' B v' (xs ++ news) → w.grownBy w' v.ownBlock → wpList Tryz.prog ops Q rest (a.put o.dst v') w') : wpList Tryz.prog ops Q (o :: rest) a w :=
  wpList_app hgd s x ho B v _ (nums xs) hs hr g m (nums news) hx (by rw [nums_length]; exact hl) hg hm (by omega) hB fun v' w' h2 h3 =>
    h v' w' (by unfold Row; rw [nums_append, List.length_append, hl]; exact h2) h3
section
variable {W : World} {nb base : Nat} {v : Value} {st : List UInt8}
theorem Moved.after {W1 W' : World} {en : Bool} (h : Moved nb base v st en W1 W') (hb : Below W.heap.size W W1) : Moved nb base v st en W W' := by
  obtain ⟨v', Wm, h1, h2, h3, h4⟩ := h
  exact ⟨v', Wm, h1, h2, gb_trans (gb_of_below _ hb) h3, h4⟩
theorem close_ok (hn : Whole W nb 142 #[v, .bool false]) (hr : Row W base v st) (hs : st.length ≤ 100000) :
    Calls Tryz.prog 135 #[.pointer (some ⟨nb, 0, none⟩)] W fun e W' => e = .returned (.tuple #[]) ∧ Moved nb base v (if st = [] then st else st.dropLast) (if st = [] then true else false) W W' := by
  obtain ⟨A, c, rfl, _⟩ := hr.liesN
  have c0 := hn.cell 0
  have c1 := hn.cell 1
  have f0 := hn.frozen 0
  have f1 := hn.frozen 1
  simp only [List.getElem?_toArray, List.getElem?_cons_zero, List.getElem?_cons_succ] at c0 c1
  by_cases h0 : st = []
  · subst h0
    have hp := hn.put 1 (.bool true)
    have HP := Lib.hid hp
    have HR := Lib.hid (hr.later (Below.refl _ _))
    have HAP := Lib.hid (fun (a : Addr) (e : A = some a) => (by subst e; exact hr.apart hn (by decide) : nb ≠ a.block))
    have hgb : W.grownBy (W.setCell ⟨nb, 1, none⟩ (.bool true)) (some nb) := gb_put (p := ⟨nb, 1, none⟩) (gb_refl W _) (.inl rfl) _
    have HG := Lib.hid hgb
    clear hn hr hp hgb
    go_enter Tryz.func135, Tryz.ntmps135
    go_wp2
    refine bodyPost_ret (v := .tuple #[]) (by simp [results, Tryz.results135]) rfl ?_
    refine ⟨rfl, _, W, HP.out, ?_, gb_refl _ _, HG.out⟩
    exact World.ownsRow.kept HR.out HG.out (by
      cases A with
      | none => exact .inl rfl
      | some a => exact .inr (by have := HAP.out a rfl; simp only [Value.ownBlock, ne_eq, Option.some.injEq]; exact fun e => this e.symm))
  · obtain ⟨g, rfl, _, hbg, hglt, hcut, hc1, hc2⟩ := hr.cut h0
    obtain ⟨n, hnn⟩ : ∃ n, st.length = n + 1 := ⟨st.length - 1, by have := List.length_pos_iff.2 h0; omega⟩
    have HAP := Lib.hid (hr.apart hn (by decide))
    have HH := Lib.hid h0
    rw [hnn] at c0 hs hc1 hcut hn
    rw [Nat.add_sub_cancel] at hcut
    have e1 : ((n + 1 : Nat) : Int) - 1 = n := by omega
    have HP := Lib.hid (hn.put 0 (.slice (some ⟨g, 0, none⟩) n c))
    have HC := Lib.hid hcut
    have hgb : W.grownBy (W.setCell ⟨nb, 0, none⟩ (.slice (some ⟨g, 0, none⟩) n c)) (some nb) := gb_put (p := ⟨nb, 0, none⟩) (gb_refl W _) (.inl rfl) _
    have HG := Lib.hid hgb
    rw [hnn]
    clear hn hr hcut hnn h0 hgb
    unfold maxLen at hc2
    have hc3 : ¬ (c : Int) < n := by omega
    go_enter Tryz.func135, Tryz.ntmps135
    go_wp2
    go_end0
    refine ⟨rfl, ?_⟩
    refine ⟨_, W, HP.out, ?_, gb_refl _ _, HG.out⟩
    exact World.ownsRow.kept HC.out HG.out (.inr (by simp only [Value.ownBlock, ne_eq, Option.some.injEq]; exact fun e => HAP.out e.symm))
theorem add_ended (hn : Whole W nb 142 #[v, .bool true]) (op : UInt8) : Calls Tryz.prog 111 #[.pointer (some ⟨nb, 0, none⟩), .int .u8 op.toNat] W fun e W' => e = .returned (.bool false) ∧ W = W' := by
  have c1 := hn.cell 1
  simp only [List.getElem?_toArray, List.getElem?_cons_zero, List.getElem?_cons_succ] at c1
  clear hn
  go_enter Tryz.func111, Tryz.ntmps111
  go_wp2
  go_ret
  exact ⟨rfl, rfl⟩
theorem addZ_11 {st : List UInt8} : addZ st 11 = some (if st = [] then st else st.dropLast, if st = [] then true else false) := by
  unfold addZ
  rw [if_neg (by decide +kernel), if_neg (by decide), if_pos rfl]
  by_cases h : st = []
  · rw [if_pos h, if_pos h, if_pos h]
  · rw [if_neg h, if_neg h, if_neg h]
set_option maxHeartbeats 1000000 in
theorem add_ok {op : UInt8} {st' : List UInt8} {en : Bool} (hT : Tabs W) (hn : Whole W nb 142 #[v, .bool false]) (hr : Row W base v st) (hb : base ≤ W.heap.size) (hs : st.length ≤ 100000) (ha : addZ st op = some (st', en)) :
    Calls Tryz.prog 111 #[.pointer (some ⟨nb, 0, none⟩), .int .u8 op.toNat] W fun e W' => e = .returned (.bool true) ∧ Moved nb base v st' en W W' := by
  have HO := Lib.hid (opens_any op.toNat W hT (by have := op.toNat_lt; omega))
  have c1 := hn.cell 1
  simp only [List.getElem?_toArray, List.getElem?_cons_zero, List.getElem?_cons_succ] at c1
  have HN := Lib.hid hn
  have HR := Lib.hid hr
  clear hn hr
  by_cases h1 : immR op.toNat = 1
  · have hd : (immR op.toNat == 1) = true := by simpa using h1
    rw [hd] at HO
    unfold addZ at ha
    rw [if_pos h1] at ha
    injection ha with ha
    injection ha with ha1 ha2
    subst ha2
    have HST := Lib.hid ha1
    clear ha1
    have HAP := Lib.hid (fun (w1 : World) (h1 : Whole w1 nb 142 #[v, .bool false]) (h2 : Row w1 base v st) => (by
      cases v with
      | slice A n c => cases A with
        | none => simp [Value.ownBlock]
        | some a => have := h2.apart h1 (by decide); simp only [Value.ownBlock, ne_eq, Option.some.injEq]; exact this
      | _ => simp [Value.ownBlock] : some nb ≠ v.ownBlock))
    clear h1 hd
    go_enter Tryz.func111, Tryz.ntmps111
    go_wp2_with (first
      | (at_builtin; (refine row_newG rfl _ _ rfl base v st rfl (HR1.out.alloc _) w1.heap.size 1 [op] rfl rfl (heap_alloc_new w1 _) (by omega) (by simp; omega) (by have := HB1.out.size; simp; omega) ?_; intro v3 w3 hr3 hg3; rw [HST.out] at hr3; have hn3 : Whole w3 nb 142 #[v, .bool false] := (HN1.out.alloc _).grown hg3 (HAP.out _ HN1.out HR1.out); have k3 := hn3.cell 0; have k4 := hn3.frozen 0; simp only [List.getElem?_toArray, List.getElem?_cons_zero] at k3; obtain ⟨A3, c3, rfl, _⟩ := hr3.liesN; have HR3 := Lib.hid hr3; have HG3 := Lib.hid hg3; have HN3 := Lib.hid hn3; clear hr3 hg3 hn3))
      | (go_at_call 133; go_must ((with_reducible refine HO.out.mono ?_); rintro e w1 ⟨rfl, hb1⟩; have HB1 := Lib.hid hb1; have HR1 := Lib.hid (HR.out.later hb1); have HN1 := Lib.hid (HN.out.below hb1); have k0 := HN1.out.cell 0; have g0 := HN1.out.frozen 0; simp only [List.getElem?_toArray, List.getElem?_cons_zero] at k0; clear hb1)))
    go_ret
    have hgb : w3.grownBy (w3.setCell ⟨nb, 0, none⟩ (.slice A3 st'.length c3)) (some nb) := gb_put (p := ⟨nb, 0, none⟩) (gb_refl w3 _) (.inl rfl) _
    refine ⟨rfl, _, w3, HN3.out.put 0 _, ?_, gb_trans (gb_alloc (gb_of_below _ HB1.out) _) HG3.out, hgb⟩
    exact World.ownsRow.kept HR3.out hgb (by
      cases A3 with
      | none => exact .inl rfl
      | some a => exact .inr (by have := HR3.out.apart HN3.out (by decide); simp only [Value.ownBlock, ne_eq, Option.some.injEq]; omega))
  · have hd : (immR op.toNat == 1) = false := by simpa using h1
    rw [hd] at HO
    by_cases h5 : op = 5
    · subst h5
      have hl4 : st.getLast? = some 4 := by
        unfold addZ at ha
        rw [if_neg h1, if_pos rfl] at ha
        by_cases h4 : st.getLast? = some 4
        · exact h4
        · rw [if_neg h4] at ha; cases ha
      have ha2 : st' = st.dropLast ++ [5] ∧ en = false := by
        unfold addZ at ha
        rw [if_neg h1, if_pos rfl, if_pos hl4] at ha
        injection ha with ha
        injection ha with ha1 ha2
        exact ⟨ha1.symm, ha2.symm⟩
      obtain ⟨rfl, rfl⟩ := ha2
      have e5 : (((5 : UInt8).toNat : Int) == 5) = true := rfl
      have HTU := Lib.hid (fun w1 h1 h2 => turn_yes (W := w1) (nb := nb) (base := base) (v := v) (st := st) h1 h2 hs hl4)
      have HO5 := Lib.hid (show Calls Tryz.prog 133 #[.int .u8 5] W (fun e w' => e = .returned (.bool false) ∧ Below W.heap.size W w') from HO.out)
      clear h1 hd ha hl4
      go_enter Tryz.func111, Tryz.ntmps111
      go_wp2_with (first
        | (go_at_call 134; go_must ((with_reducible refine (HTU.out _ HN1.out HR1.out).mono ?_); intro e w2 hq; obtain ⟨rfl, hmv⟩ := hq; have HM := Lib.hid hmv; clear hmv))
        | (go_at_call 133; go_must ((with_reducible refine HO5.out.mono ?_); rintro e w1 ⟨rfl, hb1⟩; have HB1 := Lib.hid hb1; have HR1 := Lib.hid (HR.out.later hb1); have HN1 := Lib.hid (HN.out.below hb1); clear hb1)))
      go_ret
      exact ⟨rfl, Moved.after HM.out HB1.out⟩
    · have d5 : ((op.toNat : Int) == 5) = false := by
        have : op.toNat ≠ (5 : UInt8).toNat := fun e => h5 (UInt8.toNat_inj.1 e)
        have e5 : (5 : UInt8).toNat = 5 := rfl
        rw [e5] at this
        simp; omega
      by_cases h11 : op = 11
      · subst h11
        rw [addZ_11] at ha
        injection ha with ha
        injection ha with ha1 ha2
        have HE1 := Lib.hid ha1
        have HE2 := Lib.hid ha2
        clear ha1 ha2
        have e11 : (((11 : UInt8).toNat : Int) == 11) = true := rfl
        have HCL := Lib.hid (fun w1 h1 h2 => close_ok (W := w1) (nb := nb) (base := base) (v := v) (st := st) h1 h2 hs)
        have HO5 := Lib.hid (show Calls Tryz.prog 133 #[.int .u8 11] W (fun e w' => e = .returned (.bool false) ∧ Below W.heap.size W w') from HO.out)
        clear h1 hd h5
        go_enter Tryz.func111, Tryz.ntmps111
        go_wp2_with (first
          | (go_at_call 135; go_must ((with_reducible refine (HCL.out _ HN1.out HR1.out).mono ?_); rintro e w2 ⟨rfl, hmv⟩; have HM := Lib.hid hmv; clear hmv))
          | (go_at_call 133; go_must ((with_reducible refine HO5.out.mono ?_); rintro e w1 ⟨rfl, hb1⟩; have HB1 := Lib.hid hb1; have HR1 := Lib.hid (HR.out.later hb1); have HN1 := Lib.hid (HN.out.below hb1); clear hb1)))
        go_ret
        refine ⟨rfl, ?_⟩
        rw [← HE1.out, ← HE2.out]
        exact Moved.after HM.out HB1.out
      · have d11 : ((op.toNat : Int) == 11) = false := by
          have : op.toNat ≠ (11 : UInt8).toNat := fun e => h11 (UInt8.toNat_inj.1 e)
          have e11 : (11 : UInt8).toNat = 11 := rfl
          rw [e11] at this
          simp; omega
        unfold addZ at ha
        rw [if_neg h1, if_neg h5, if_neg h11] at ha
        injection ha with ha
        injection ha with ha1 ha2
        subst ha1; subst ha2
        clear h1 hd h5 h11
        go_enter Tryz.func111, Tryz.ntmps111
        go_wp2_with (go_at_call 133; go_must ((with_reducible refine HO.out.mono ?_); rintro e w1 ⟨rfl, hb1⟩; have HB1 := Lib.hid hb1; have HR1 := Lib.hid (HR.out.later hb1); have HN1 := Lib.hid (HN.out.below hb1); clear hb1))
        go_ret
        exact ⟨rfl, v, w1, HN1.out, HR1.out, gb_of_below _ HB1.out, gb_refl _ _⟩
theorem add_no {op : UInt8} (hT : Tabs W) (hn : Whole W nb 142 #[v, .bool false]) (hr : Row W base v st) (hs : st.length ≤ 100000) (ha : addZ st op = none) :
    Calls Tryz.prog 111 #[.pointer (some ⟨nb, 0, none⟩), .int .u8 op.toNat] W fun e W' => e = .returned (.bool false) ∧ Below W.heap.size W W' := by
  unfold addZ at ha
  by_cases h1 : immR op.toNat = 1
  · rw [if_pos h1] at ha; cases ha
  · rw [if_neg h1] at ha
    by_cases h5 : op = 5
    · rw [if_pos h5] at ha
      have hl4 : st.getLast? ≠ some 4 := fun e => by rw [if_pos e] at ha; cases ha
      subst h5
      have HO := Lib.hid (opens_any (5 : UInt8).toNat W hT (by decide))
      have hd : (immR (5 : UInt8).toNat == 1) = false := by simpa using h1
      rw [hd] at HO
      have c1 := hn.cell 1
      simp only [List.getElem?_toArray, List.getElem?_cons_zero, List.getElem?_cons_succ] at c1
      have HN := Lib.hid hn
      have HR := Lib.hid hr
      have e5 : (((5 : UInt8).toNat : Int) == 5) = true := rfl
      have HTU := Lib.hid (fun w1 h1 h2 => turn_no (W := w1) (nb := nb) (base := base) (v := v) (st := st) h1 h2 hs hl4)
      have HO5 := Lib.hid (show Calls Tryz.prog 133 #[.int .u8 5] W (fun e w' => e = .returned (.bool false) ∧ Below W.heap.size W w') from HO.out)
      clear h1 hd ha hl4 hn hr
      go_enter Tryz.func111, Tryz.ntmps111
      go_wp2_with (first
        | (go_at_call 134; go_must ((with_reducible refine (HTU.out _ HN1.out HR1.out).mono ?_); rintro e w2 ⟨rfl, rfl⟩))
        | (go_at_call 133; go_must ((with_reducible refine HO5.out.mono ?_); rintro e w1 ⟨rfl, hb1⟩; have HB1 := Lib.hid hb1; have HR1 := Lib.hid (HR.out.later hb1); have HN1 := Lib.hid (HN.out.below hb1); clear hb1)))
      go_ret
      exact ⟨rfl, HB1.out⟩
    · rw [if_neg h5] at ha
      by_cases h11 : op = 11
      · rw [if_pos h11] at ha
        by_cases h0 : st = []
        · rw [if_pos h0] at ha; cases ha
        · rw [if_neg h0] at ha; cases ha
      · rw [if_neg h11] at ha; cases ha
end
end Go.Proofs.YtebgmfjgapmpfabGreatDoor
