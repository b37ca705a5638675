/- slices.Equal of labels; instr.Same; the reference's Same. -/
import Derived.Test.YticgmfeihdankaaDoorZm06
import Derived.RegionTactic
import Derived.Test.YticgmfeihdankaaDoorZm08
import Derived.OwnWalk
import Derived.Laws.AppendOwn
import Derived.Test.YticgmfeihdankaaDoorZm02
import Derived.Test.YticgmfeihdankaaDoorZm01
import Derived.Test.YticgmfeihdankaaDoorZm07
namespace Go.Proofs.YticgmfeihdankaaDoor
open Go.RowKit
set_option linter.unusedVariables false
set_option maxRecDepth 100000

def LiesL (w : World) (A : Option Addr) (l : List Int) : Prop := Lies w w.heap.size A (cells32 l)
theorem LiesL.below {w w' : World} {A : Option Addr} {l : List Int} (h : LiesL w A l) (hb : Below w.heap.size w w') : LiesL w' A l := (Lies.below h hb (Nat.le_refl _)).more hb.size
theorem LiesL.at {w : World} {A : Option Addr} {l : List Int} (h : LiesL w A l) {i : Nat} {d : Int} (hd : l[i]? = some d) : ∃ b off, A = some ⟨b, off, none⟩ ∧ b < w.heap.size ∧ w.cell? ⟨b, off + i, none⟩ = some (.int .u32 d) := by
  obtain ⟨b, off, e, hb, hc⟩ := h i _ (cells32_get hd)
  exact ⟨b, off, e, hb, hc⟩
/-- The first k of two lists are the same. -/
def Eqs (a b : List Int) (k : Nat) : Prop := ∀ j, j < k → a[j]? = b[j]?
theorem Eqs.all {a b : List Int} {n : Nat} (h : Eqs a b n) (ha : a.length = n) (hb : b.length = n) : a = b := by
  apply List.ext_getElem?
  intro j
  rcases Nat.lt_or_ge j n with g | g
  · exact h j g
  · rw [List.getElem?_eq_none (by omega), List.getElem?_eq_none (by omega)]
def BoolPost (p : Bool) (w : World) (e : Ending) (w' : World) : Prop := e = .returned (.bool p) ∧ Below w.heap.size w w'
set_option maxHeartbeats 800000 in
theorem equal_any {w : World} {A B : Option Addr} {c d : Nat} {a b : List Int} (ha : LiesL w A a) (hb : LiesL w B b) (na : a.length ≤ 100000) (nb : b.length ≤ 100000) :
    Calls Tryd.prog 91 #[.slice A a.length c, .slice B b.length d] w fun e w' => e = .returned (.bool (decide (a = b))) ∧ ∃ q, w' = w.drewN q := by
  obtain ⟨n, hn⟩ : ∃ n, n = a.length := ⟨_, rfl⟩
  obtain ⟨m, hm⟩ : ∃ m, m = b.length := ⟨_, rfl⟩
  rw [← hn] at na ⊢
  rw [← hm] at nb ⊢
  by_cases hnm : n = m
  · subst hnm
    have HA := Lib.hid ha
    have HB := Lib.hid hb
    have HN := Lib.hid hn
    have HM := Lib.hid hm
    clear ha hb hn hm
    go_enter Tryd.func91, Tryd.ntmps91
    go_wp2
    go_loopw [13] (fun s wr => ∃ k q : Nat, k ≤ n ∧ s = .int .i64 k ∧ wr = w.drewN q ∧ Eqs a b k) (fun s _ => n - (intOf s).toNat)
    case atStart => exact ⟨0, 0, Nat.zero_le _, rfl, rfl, fun j hj => absurd hj (Nat.not_lt_zero _)⟩
    case round =>
      obtain ⟨k, q, hk, rfl, rfl, heq⟩ := hrel
      by_cases hlt : k < n
      · obtain ⟨x, hx⟩ : ∃ x, a[k]? = some x := ⟨_, List.getElem?_eq_getElem (by rw [← HN.out]; exact hlt)⟩
        obtain ⟨y, hy⟩ : ∃ y, b[k]? = some y := ⟨_, List.getElem?_eq_getElem (by rw [← HM.out]; exact hlt)⟩
        obtain ⟨b1, o1, rfl, _, g1⟩ := HA.out.at hx
        obtain ⟨b2, o2, rfl, _, g2⟩ := HB.out.at hy
        have HE := Lib.hid heq
        have HX := Lib.hid hx
        have HY := Lib.hid hy
        clear heq hx hy
        by_cases hxy : x = y
        · have HXY := Lib.hid hxy
          have hc : (x != y) = false := by simpa using hxy
          clear hxy
          go_wp2_with fail
          go_region
          go_wp2
          go_roundw
          case measure => simp [intOf]; omega
          case rel =>
            refine ⟨k + 1, q + 1, by omega, by go_num, rfl, fun j hj => ?_⟩
            by_cases e : j = k
            · subst e
              rw [HX.out, HY.out, HXY.out]
            · exact HE.out j (by omega)
        · have HXY := Lib.hid hxy
          have hc : (x != y) = true := by simpa using hxy
          clear hxy
          go_wp2_with fail
          go_region
          go_wp2
          go_ret
          refine ⟨ret_bool ?_, q + 1, rfl⟩
          have : ¬ a = b := fun e => HXY.out (by have h1 := HX.out; have h2 := HY.out; rw [e, h2] at h1; injection h1 with h1; exact h1.symm)
          rw [decide_eq_false this]
      · obtain rfl : k = n := by omega
        have hab := heq.all HN.out.symm HM.out.symm
        clear heq
        go_wp2
        go_ret
        exact ⟨ret_bool (by rw [decide_eq_true hab]), q, rfl⟩
  · have hc : ((n : Int) != m) = true := by simp; omega
    have HE := Lib.hid (show decide (a = b) = false from decide_eq_false (fun e => hnm (by rw [hn, hm, e])))
    clear hnm hn hm
    go_enter Tryd.func91, Tryd.ntmps91
    go_wp2
    go_ret
    exact ⟨ret_bool HE.out.symm, 0, rfl⟩

/-- Are two instructions the same? -/
def sameZ (i k : I) : Bool := decide (i.op = k.op) && decide (i.a = k.a) && decide (i.b = k.b) && decide (i.l = k.l)
theorem below_twoI (w : World) (i k : I) (A B : Option Addr) (c d : Nat) : Below w.heap.size w ((w.alloc (.cells (insC i A c) 25)).alloc (.cells (insC k B d) 25)) := (below_box w _).alloc (by simp) _
theorem same_no {i k : I} {w W : World} (h : ¬ (i.op = k.op ∧ i.a = k.a ∧ i.b = k.b ∧ i.l = k.l)) (hb : Below w.heap.size w W) : BoolPost (sameZ i k) w (.returned (.bool false)) W := by
  refine ⟨ret_bool ?_, hb⟩
  unfold sameZ
  by_cases h1 : i.op = k.op
  · by_cases h2 : i.a = k.a
    · by_cases h3 : i.b = k.b
      · have h4 : ¬ i.l = k.l := fun e => h ⟨h1, h2, h3, e⟩
        simp [h4]
      · simp [h3]
    · simp [h2]
  · simp [h1]
theorem op_ne {a b : UInt8} (h : a ≠ b) : ((a.toNat : Int) == b.toNat) = false := by
  simp
  intro e
  exact h (UInt8.toNat_inj.1 (by omega))
theorem op_eq (a : UInt8) : ((a.toNat : Int) == a.toNat) = true := by simp
set_option maxHeartbeats 1000000 in
theorem same_any {w : World} {A B : Option Addr} {c d : Nat} {i k : I} (ha : LiesL w A i.l) (hb : LiesL w B k.l) (na : i.l.length ≤ 100000) (nb : k.l.length ≤ 100000) :
    Calls Tryd.prog 34 #[insV i A c, insV k B d] w (BoolPost (sameZ i k) w) := by
  have HB2 := Lib.hid (below_twoI w i k A B c d)
  have HEQ := Lib.hid (equal_any (c := c) (d := d) (ha.below HB2.out) (hb.below HB2.out) na nb)
  clear ha hb
  by_cases h1 : i.op = k.op
  · have d1 : ((i.op.toNat : Int) == k.op.toNat) = true := by rw [h1]; exact op_eq _
    by_cases h2 : i.a = k.a
    · have d2 : (i.a == k.a) = true := by simpa using h2
      by_cases h3 : i.b = k.b
      · have d3 : (i.b == k.b) = true := by simpa using h3
        have HE := Lib.hid (show sameZ i k = decide (i.l = k.l) by unfold sameZ; simp [h1, h2, h3])
        clear h1 h2 h3
        go_enter Tryd.func34, Tryd.ntmps34
        go_wp2_with (go_at_call 91; go_must ((with_reducible refine HEQ.out.mono ?_); rintro e w' ⟨rfl, q, rfl⟩))
        go_ret
        exact ⟨ret_bool HE.out.symm, below_drewN HB2.out _⟩
      · have d3 : (i.b == k.b) = false := by simpa using h3
        have HNO := Lib.hid (fun W hb => same_no (i := i) (k := k) (w := w) (W := W) (fun h => h3 h.2.2.1) hb)
        clear h1 h2 h3
        go_enter Tryd.func34, Tryd.ntmps34
        go_wp2
        go_ret
        exact HNO.out _ HB2.out
    · have d2 : (i.a == k.a) = false := by simpa using h2
      have HNO := Lib.hid (fun W hb => same_no (i := i) (k := k) (w := w) (W := W) (fun h => h2 h.2.1) hb)
      clear h1 h2
      go_enter Tryd.func34, Tryd.ntmps34
      go_wp2
      go_ret
      exact HNO.out _ HB2.out
  · have d1 := op_ne h1
    have HNO := Lib.hid (fun W hb => same_no (i := i) (k := k) (w := w) (W := W) (fun h => h1 h.1) hb)
    clear h1
    go_enter Tryd.func34, Tryd.ntmps34
    go_wp2
    go_ret
    exact HNO.out _ HB2.out
set_option maxHeartbeats 2000000 in
theorem refSame_any {w : World} {A B : Option Addr} {c d : Nat} {i k : I} (ha : LiesL w A i.l) (hb : LiesL w B k.l) (na : i.l.length ≤ 100000) (nb : k.l.length ≤ 100000) :
    Calls Tryd.prog 35 #[insV i A c, insV k B d] w (BoolPost (sameZ i k) w) := by
  have HB2 := Lib.hid (below_twoI w i k A B c d)
  have HA := Lib.hid (ha.below HB2.out)
  have HB := Lib.hid (hb.below HB2.out)
  clear ha hb
  by_cases h1 : i.op = k.op
  · have d1 : ((i.op.toNat : Int) != k.op.toNat) = false := by rw [h1]; simp
    by_cases h2 : i.a = k.a
    · have d2 : (i.a != k.a) = false := by simpa using h2
      by_cases h3 : i.b = k.b
      · have d3 : (i.b != k.b) = false := by simpa using h3
        have HE := Lib.hid (show sameZ i k = decide (i.l = k.l) by unfold sameZ; simp [h1, h2, h3])
        by_cases h4 : i.l.length = k.l.length
        · have d4 : ((i.l.length : Int) != k.l.length) = false := by rw [h4]; simp
          have HL := Lib.hid h4
          clear h1 h2 h3 h4
          go_enter Tryd.func35, Tryd.ntmps35
          go_wp2
          generalize hW : ((w.alloc (.cells (insC i A c) 25)).alloc (.cells (insC k B d) 25)) = W at *
          have x3 : W.cell? ⟨w.heap.size, 3, none⟩ = some (.slice A i.l.length c) := by rw [← hW]; exact ((Whole.made w 25 (insC i A c)).alloc _).cell 3
          have y3 : W.cell? ⟨w.heap.size + 1, 3, none⟩ = some (.slice B k.l.length d) := by
            rw [← hW]
            have := Whole.made (w.alloc (.cells (insC i A c) 25)) 25 (insC k B d)
            rw [size_box] at this
            exact this.cell 3
          clear hW
          go_loopw [5] (fun s wr => ∃ j q : Nat, j ≤ i.l.length ∧ s = .int .i64 j ∧ wr = W.drewN q ∧ Eqs i.l k.l j) (fun s _ => i.l.length - (intOf s).toNat)
          case atStart => exact ⟨0, 0, Nat.zero_le _, rfl, rfl, fun j hj => absurd hj (Nat.not_lt_zero _)⟩
          case round =>
            obtain ⟨j, q, hj, rfl, rfl, heq⟩ := hrel
            by_cases hlt : j < i.l.length
            · obtain ⟨x, hx⟩ : ∃ x, i.l[j]? = some x := ⟨_, List.getElem?_eq_getElem hlt⟩
              obtain ⟨y, hy⟩ : ∃ y, k.l[j]? = some y := ⟨_, List.getElem?_eq_getElem (by rw [← HL.out]; exact hlt)⟩
              obtain ⟨b1, o1, rfl, _, g1⟩ := HA.out.at hx
              obtain ⟨b2, o2, rfl, _, g2⟩ := HB.out.at hy
              have hlt2 : j < k.l.length := by rw [← HL.out]; exact hlt
              have HE2 := Lib.hid heq
              have HX := Lib.hid hx
              have HY := Lib.hid hy
              clear heq hx hy
              by_cases hxy : x = y
              · have HXY := Lib.hid hxy
                have hc : (x != y) = false := by simpa using hxy
                clear hxy
                go_wp2_with fail
                go_region
                go_wp2
                go_roundw
                case measure => simp [intOf]; omega
                case rel =>
                  refine ⟨j + 1, q + 1, by omega, by go_num, rfl, fun u hu => ?_⟩
                  by_cases e : u = j
                  · subst e
                    rw [HX.out, HY.out, HXY.out]
                  · exact HE2.out u (by omega)
              · have HXY := Lib.hid hxy
                have hc : (x != y) = true := by simpa using hxy
                clear hxy
                go_wp2_with fail
                go_region
                go_wp2
                go_ret
                refine ⟨ret_bool ?_, below_drewN HB2.out _⟩
                have : ¬ i.l = k.l := fun e => HXY.out (by have h1 := HX.out; have h2 := HY.out; rw [e, h2] at h1; injection h1 with h1; exact h1.symm)
                rw [HE.out, decide_eq_false this]
            · have hjj : j = i.l.length := by omega
              subst hjj
              have hab : i.l = k.l := heq.all rfl HL.out.symm
              clear heq
              go_wp2
              go_ret
              exact ⟨ret_bool (by rw [HE.out, decide_eq_true hab]), below_drewN HB2.out _⟩
        · have d4 : ((i.l.length : Int) != k.l.length) = true := by simp; omega
          have HNO := Lib.hid (fun W hb => same_no (i := i) (k := k) (w := w) (W := W) (fun h => h4 (by rw [h.2.2.2])) hb)
          clear h1 h2 h3 h4
          go_enter Tryd.func35, Tryd.ntmps35
          go_wp2
          go_ret
          exact HNO.out _ HB2.out
      · have d3 : (i.b != k.b) = true := by simpa using h3
        have HNO := Lib.hid (fun W hb => same_no (i := i) (k := k) (w := w) (W := W) (fun h => h3 h.2.2.1) hb)
        clear h1 h2 h3
        go_enter Tryd.func35, Tryd.ntmps35
        go_wp2
        go_ret
        exact HNO.out _ HB2.out
    · have d2 : (i.a != k.a) = true := by simpa using h2
      have HNO := Lib.hid (fun W hb => same_no (i := i) (k := k) (w := w) (W := W) (fun h => h2 h.2.1) hb)
      clear h1 h2
      go_enter Tryd.func35, Tryd.ntmps35
      go_wp2
      go_ret
      exact HNO.out _ HB2.out
  · have d1 : ((i.op.toNat : Int) != k.op.toNat) = true := by have := op_ne h1; simp at this ⊢; exact this
    have HNO := Lib.hid (fun W hb => same_no (i := i) (k := k) (w := w) (W := W) (fun h => h1 h.1) hb)
    clear h1
    go_enter Tryd.func35, Tryd.ntmps35
    go_wp2
    go_ret
    exact HNO.out _ HB2.out
end Go.Proofs.YticgmfeihdankaaDoor

/- Lists of global types and of values in memory; values in a row of the call's own. -/
namespace Go.Proofs.YticgmfeihdankaaDoor
open Go.RowKit
set_option linter.unusedVariables false
set_option maxRecDepth 100000

def boolOf : Value → Bool
  | .bool b => b
  | _ => false
/-- A list of global types. -/
def LiesG (w : World) (A : Option Addr) (l : List (Int × Bool)) : Prop :=
  ∀ i t m, l[i]? = some (t, m) → ∃ b off, A = some ⟨b, off, none⟩ ∧ b < w.heap.size ∧ w.cell? ⟨b, off + i * 2, none⟩ = some (.int .u8 t) ∧ w.cell? ⟨b, off + i * 2 + 1, none⟩ = some (.bool m)
theorem LiesG.below {w w' : World} {A : Option Addr} {l : List (Int × Bool)} (h : LiesG w A l) (hb : Below w.heap.size w w') : LiesG w' A l := fun i t m hi => by
  obtain ⟨b, off, e, h1, h2, h3⟩ := h i t m hi
  exact ⟨b, off, e, Nat.lt_of_lt_of_le h1 hb.size, (hb.cell (p := ⟨b, off + i * 2, none⟩) (by show b < _; omega)).trans h2, (hb.cell (p := ⟨b, off + i * 2 + 1, none⟩) (by show b < _; omega)).trans h3⟩
/-- A list of values. -/
def LiesP (w : World) (A : Option Addr) (l : List (Int × Int)) : Prop :=
  ∀ i t n, l[i]? = some (t, n) → ∃ b off, A = some ⟨b, off, none⟩ ∧ b < w.heap.size ∧ w.cell? ⟨b, off + i * 2, none⟩ = some (.int .u8 t) ∧ w.cell? ⟨b, off + i * 2 + 1, none⟩ = some (.int .u64 n)
theorem LiesP.below {w w' : World} {A : Option Addr} {l : List (Int × Int)} (h : LiesP w A l) (hb : Below w.heap.size w w') : LiesP w' A l := fun i t m hi => by
  obtain ⟨b, off, e, h1, h2, h3⟩ := h i t m hi
  exact ⟨b, off, e, Nat.lt_of_lt_of_le h1 hb.size, (hb.cell (p := ⟨b, off + i * 2, none⟩) (by show b < _; omega)).trans h2, (hb.cell (p := ⟨b, off + i * 2 + 1, none⟩) (by show b < _; omega)).trans h3⟩
theorem LiesP.nil (w : World) : LiesP w none [] := fun i t n h => by cases h

theorem infoVal : (Tryd.prog.info? 86).map (fun i => (i.zero, i.size, i.bytes)) = some (some (.agg #[.int .u8 0, .int .u64 0]), 2, 16) := by kernel_rfl
def valC (x : Int × Int) : List Value := [.int .u8 x.1, .int .u64 x.2]
/-- Values in a row of the call's own. -/
def RowV (W : World) (base : Nat) (v : Value) (l : List (Int × Int)) : Prop := W.ownsRow base 86 2 v l.length (l.flatMap valC)
theorem RowV.nil (w : World) (base : Nat) : RowV w base (.slice none 0 0) [] := World.ownsRow_nil w base _ 2
theorem RowV.later {w w' : World} {base : Nat} {v : Value} {l : List (Int × Int)} (h : RowV w base v l) (hb : Below w.heap.size w w') : RowV w' base v l :=
  World.ownsRow.kept h (gb_of_below none hb) (by cases v.ownBlock with
    | none => exact .inl rfl
    | some k => exact .inr (by simp))
theorem RowV.alloc {w : World} {base : Nat} {v : Value} {l : List (Int × Int)} (h : RowV w base v l) (o : Obj) : RowV (w.alloc o) base v l := World.ownsRow.alloc h o
theorem flatV_get : ∀ (l : List (Int × Int)) (j : Nat) (x : Int × Int) (u : Nat), l[j]? = some x → u < 2 → (l.flatMap valC)[j * 2 + u]? = (valC x)[u]?
  | [], j, x, u, h, _ => by cases h
  | y :: l, 0, x, u, h, hu => by
    injection h with h
    subst h
    rw [List.flatMap_cons, Nat.zero_mul, Nat.zero_add, List.getElem?_append_left (by show u < 2; exact hu)]
  | y :: l, j + 1, x, u, h, hu => by
    rw [List.flatMap_cons, List.getElem?_append_right (by show 2 ≤ _; omega)]
    have e : (j + 1) * 2 + u - (valC y).length = j * 2 + u := by show (j + 1) * 2 + u - 2 = _; omega
    rw [e]
    exact flatV_get l j x u h hu
/-- What such a row reads as. -/
theorem RowV.lies {W : World} {base : Nat} {v : Value} {l : List (Int × Int)} (h : RowV W base v l) : ∃ A c, v = .slice A l.length c ∧ LiesP W A l := by
  rcases h.2 with ⟨rfl, h0⟩ | ⟨g, cap, cur, rfl, hb, hg, _, _, _, ht⟩
  · have : l = [] := List.eq_nil_of_length_eq_zero h0
    subst this
    exact ⟨none, 0, rfl, fun i t n h => by cases h⟩
  · refine ⟨some ⟨g, 0, none⟩, cap, rfl, fun j t n hj => ?_⟩
    have hjl := (List.getElem?_eq_some_iff.1 hj).1
    have key : ∀ u, u < 2 → W.cell? ⟨g, 0 + j * 2 + u, none⟩ = (valC (t, n))[u]? := fun u hu => by
      rw [cell_of_row W g (0 + j * 2 + u) cur _ _ hg, ← flatV_get l j _ u hj hu, ← ht, List.getElem?_take, if_pos (by omega)]
      simp
    exact ⟨g, 0, rfl, (show Whole W g 86 cur from hg).lt, key 0 (by omega), key 1 (by omega)⟩
/-- append of a new block of one value. -/
theorem rowsV_new {w : World} {ops : Array Oper} {rest : List Oper} {o : Oper} {a : Act} {Q : Exit → Act → World → Prop} (hgd : o.guard = none) (s x : Operand)
    (ho : o.op = .call { callee := .builtin .append, args := #[s, x], argTypes := #[87, 87] })
    (B : Nat) (v : Value) (l : List (Int × Int)) (hs : a.eval s = v) (hr : RowV w B v l) (g : Nat) (r : Int × Int) (hx : a.eval x = .slice (some ⟨g, 0, none⟩) 1 1)
    (hg : Whole w g 86 #[.int .u8 r.1, .int .u64 r.2]) (hb : l.length ≤ 1000) (hB : B ≤ w.heap.size)
    (h : ∀ v' w', RowV w' B v' (l ++ [r]) → Below B w w' → wpList Tryd.prog ops Q rest (a.put o.dst v') w') : wpList Tryd.prog ops Q (o :: rest) a w := by
  obtain ⟨i0, hi0, hz0, hz1, hz2⟩ := info_parts infoVal
  refine wpList_append_own _ hgd s x _ ho B 86 i0 _ 2 16 Tryd.underlying87 hi0 hz0 hz1 hz2 rfl (by omega) v _ _ hs hr ⟨g, 0, none⟩ 1 1 (valC r) hx rfl ?_ ?_ (by unfold maxLen; omega) (by omega) hB (fun v' w' h2 h3 _ => h v' w' ?_ ?_)
  · intro j u hu
    rw [Go.WideShapes.add_plain, Nat.zero_add, hg.cell]
    unfold valC at hu
    simpa using hu
  · intro u hu
    unfold valC at hu
    simp only [List.mem_cons, List.not_mem_nil, or_false] at hu
    rcases hu with rfl | rfl <;> rfl
  · unfold RowV
    rw [List.length_append, List.flatMap_append]
    simpa using h2
  · exact Below.grown (Below.refl _ _) h3 hB (fun k hk => (World.ownsRow.lt hr k hk).1)
end Go.Proofs.YticgmfeihdankaaDoor

/- types.Cut, Zero; creelref04.Cut; types.EncodeGlobal, creelref04.EncodeGlobal. -/
namespace Go.Proofs.YticgmfeihdankaaDoor
set_option linter.unusedVariables false
set_option maxRecDepth 100000
open Go.RowKit

/-- A value, by its type and number. -/
abbrev vv (t n : Int) : Value := .agg #[.int .u8 t, .int .u64 n]
def cutZ (t n : Int) : Int := if t = 127 then n % 4294967296 else n
def rightB (t n : Int) : Bool := decide (valueZ t = 0) && decide (cutZ t n = n)
theorem and_low (n : Int) (h0 : 0 ≤ n) (h1 : n ≤ 18446744073709551615) : bits .and .u64 n 4294967295 = n % 4294967296 := by
  have e1 : (BitVec.ofInt 64 n).toNat = n.toNat := by
    rw [BitVec.toNat_ofInt]
    show (n % 18446744073709551616).toNat = _
    rw [Int.emod_eq_of_lt h0 (by omega)]
  have e2 : (BitVec.ofInt 64 4294967295).toNat = 2 ^ 32 - 1 := by decide
  show IntKind.u64.wrap ((BitVec.ofInt 64 n &&& BitVec.ofInt 64 4294967295).toNat : Nat) = _
  rw [BitVec.toNat_and, e1, e2, Nat.and_two_pow_sub_one_eq_mod]
  simp only [IntKind.wrap, IntKind.bits, IntKind.signed]
  simp
  omega

theorem below_two (w : World) (o o' : Obj) : Below w.heap.size w ((w.alloc o).alloc o') := (below_box w o).alloc (by simp) _
theorem refCut_any (t n : Int) (w : World) (n0 : 0 ≤ n) (n1 : n ≤ 18446744073709551615) : Calls Tryd.prog 59 #[vv t n] w fun e w' => e = .returned (vv t (cutZ t n)) ∧ Below w.heap.size w w' := by
  by_cases h : t = 127
  · subst h
    have he : cutZ 127 n = n % 4294967296 := rfl
    rw [he]
    clear he
    go_enter Tryd.func59, Tryd.ntmps59
    go_wp2
    exact bodyPost_ret (v := vv 127 (n % 4294967296)) (by simp [results, Tryd.results59, go_sem]) rfl ⟨rfl, below_two _ _ _⟩
  · have hb : (t == 127) = false := by simpa using h
    have he : cutZ t n = n := by unfold cutZ; rw [if_neg h]
    rw [he]
    clear he h
    go_enter Tryd.func59, Tryd.ntmps59
    go_wp2
    exact bodyPost_ret (v := vv t n) (by simp [results, Tryd.results59, go_sem]) rfl ⟨rfl, below_two _ _ _⟩
/-- A global's type, by value. -/
abbrev gv (t : Int) (m : Bool) : Value := .agg #[.int .u8 t, .bool m]
theorem two_of {w W W' : World} {u v : Value} {t : TypeId} (h : Boxed w (.cells #[u, v] t) W ∧ W.cell? ⟨w.heap.size, 0, none⟩ = some u ∧ W.cell? ⟨w.heap.size, 1, none⟩ = some v) (hb : Below W.heap.size W W') :
    Boxed w (.cells #[u, v] t) W' ∧ W'.cell? ⟨w.heap.size, 0, none⟩ = some u ∧ W'.cell? ⟨w.heap.size, 1, none⟩ = some v := ⟨h.1.on hb, (h.1.on hb).row 0, (h.1.on hb).row 1⟩
theorem encG_new (w : World) (t : Int) (m : Bool) (h0 : 0 ≤ t) (h1 : t ≤ 255) (B H : Nat) (hH : w.heap.size = H) (hb : B ≤ H) :
    Row (w.alloc (.cells #[.int .u8 t, .int .u8 (if m then 1 else 0)] 5)) B (.slice (some ⟨H, 0, none⟩) 2 2) (encG t m) := by
  have h := Row.made w (encG t m) B H hH hb (by simp [encG])
  rw [nums_encG t m h0 h1] at h
  exact h
set_option maxHeartbeats 1000000 in
theorem encG_any (t : Int) (m : Bool) (w : World) (h0 : 0 ≤ t) (h1 : t ≤ 255) : Calls Tryd.prog 108 #[gv t m] w (BytesL (encG t m) w) := by
  have FL := Lib.hid (fun w => flag_any m w)
  obtain ⟨f, hf⟩ : ∃ f : Int, f = if m then 1 else 0 := ⟨_, rfl⟩
  have RA := Lib.hid (fun w' B H hH hb => encG_new w' t m h0 h1 B H hH hb)
  rw [← hf] at RA FL
  clear hf
  go_enter Tryd.func108, Tryd.ntmps108
  go_wp2
  go_region_held3 (fun W => Boxed w (.cells #[.int .u8 t, .bool m] 89) W ∧ W.cell? ⟨w.heap.size, 0, none⟩ = some (.int .u8 t) ∧ W.cell? ⟨w.heap.size, 1, none⟩ = some (.bool m))
    (first | assumption | (exact ⟨Boxed.start _ _, (Boxed.start _ _).row 0, (Boxed.start _ _).row 1⟩) | (exact two_of (by assumption) (below_box _ _)))
    (first | (go_at_call 151; ((with_reducible refine (FL.out _).mono ?_); rintro e w' ⟨rfl, rfl⟩)))
  go_wp2
  go_ret
  exact ⟨_, rfl, Row.drew (RA.out (w.alloc _) w.heap.size (w.heap.size + 1) (by simp) (by omega)), (below_two _ _ _).drew⟩
theorem encG_str (w : World) (t : Int) (m : Bool) (h0 : 0 ≤ t) (h1 : t ≤ 255) (H : Nat) (hH : w.heap.size = H) :
    ∀ dst, Tryd.prog.underlying dst = some .string → (convert 30 dst (.slice (some ⟨H, 0, none⟩) 2 2)).run Tryd.prog (w.alloc (.cells #[.int .u8 t, .int .u8 (if m then 1 else 0)] 5)) = .ok (.string (S (encG t m))) (w.alloc (.cells #[.int .u8 t, .int .u8 (if m then 1 else 0)] 5)) := by
  obtain ⟨A, c, e, hs⟩ := (encG_new w t m h0 h1 H H hH (Nat.le_refl _)).str
  injection e with e1 e2 e3
  subst e1; subst e3
  exact hs
theorem refEncG_any (t : Int) (m : Bool) (w : World) (h0 : 0 ≤ t) (h1 : t ≤ 255) : Calls Tryd.prog 112 #[gv t m] w fun e w' => e = .returned (.string (S (encG t m))) ∧ Below w.heap.size w w' := by
  cases m
  · have hs := encG_str (w.alloc (.cells #[.int .u8 t, .bool false] 89)) t false h0 h1 (w.heap.size + 1) (by simp)
    simp only [Bool.false_eq_true, if_false] at hs
    go_enter Tryd.func112, Tryd.ntmps112
    go_wp2
    go_ret
    exact ⟨rfl, below_two _ _ _⟩
  · have hs := encG_str (w.alloc (.cells #[.int .u8 t, .bool true] 89)) t true h0 h1 (w.heap.size + 1) (by simp)
    simp only [if_true] at hs
    go_enter Tryd.func112, Tryd.ntmps112
    go_wp2
    go_ret
    exact ⟨rfl, below_two _ _ _⟩
end Go.Proofs.YticgmfeihdankaaDoor

/- consts.global, Value, Type, Of; the reference's Value and Type. (By gen/genCVal.py.) -/
namespace Go.Proofs.YticgmfeihdankaaDoor
open Go.RowKit
set_option linter.unusedVariables false
set_option maxRecDepth 100000

/-- What stands at a place of a list, or nothing. -/
def getP (l : List (Int × Int)) (j : Nat) : (Int × Int) × Int := match l[j]? with
  | some x => (x, 0)
  | none => ((0, 0), 24)
theorem getP_in {l : List (Int × Int)} {j : Nat} {x : Int × Int} (h : l[j]? = some x) : getP l j = (x, 0) := by unfold getP; rw [h]
theorem getP_out {l : List (Int × Int)} {j : Nat} (h : ¬ j < l.length) : getP l j = ((0, 0), 24) := by unfold getP; rw [List.getElem?_eq_none (by omega)]
def getG (l : List (Int × Bool)) (j : Nat) : (Int × Bool) × Int := match l[j]? with
  | some x => (x, 0)
  | none => ((0, false), 24)
theorem getG_in {l : List (Int × Bool)} {j : Nat} {x : Int × Bool} (h : l[j]? = some x) : getG l j = (x, 0) := by unfold getG; rw [h]
theorem getG_out {l : List (Int × Bool)} {j : Nat} (h : ¬ j < l.length) : getG l j = ((0, false), 24) := by unfold getG; rw [List.getElem?_eq_none (by omega)]
abbrev retP (r : (Int × Int) × Int) : Value := .tuple #[.agg #[.int .u8 r.1.1, .int .u64 r.1.2], .int .i64 r.2]
abbrev retG (r : (Int × Bool) × Int) : Value := .tuple #[.agg #[.int .u8 r.1.1, .bool r.1.2], .int .i64 r.2]
def PPost (r : (Int × Int) × Int) (w : World) (e : Ending) (w' : World) : Prop := e = .returned (retP r) ∧ Below w.heap.size w w'
def GPost (r : (Int × Bool) × Int) (w : World) (e : Ending) (w' : World) : Prop := e = .returned (retG r) ∧ Below w.heap.size w w'
theorem put2_below {w W : World} {b : Nat} {t : TypeId} {x0 x1 : Value} (u0 u1 : Value) (h : Whole W b t #[x0, x1]) (hb : Below w.heap.size w W) (hlo : w.heap.size ≤ b) :
    Whole ((W.setCell ⟨b, 0, none⟩ u0).setCell ⟨b, 1, none⟩ u1) b t #[u0, u1] ∧ Below w.heap.size w ((W.setCell ⟨b, 0, none⟩ u0).setCell ⟨b, 1, none⟩ u1) := by
  obtain ⟨p, g⟩ := put2 (u0 := u0) (u1 := u1) h
  exact ⟨p, Below.grown hb g hb.size (fun k e => by injection e with e; omega)⟩

set_option maxHeartbeats 800000 in
theorem globalV_any {w : World} {A Ai : Option Addr} {c n ci : Nat} {l : List (Int × Int)} {o b : Int} {j : Nat} (hl : LiesP w A l) (nl : (l.length : Int) ≤ 9223372036854775807) :
    Calls Tryd.prog 107 #[.agg #[.int .u8 o, .int .u64 j, .int .u64 b, .slice Ai n ci], .slice A l.length c] w (PPost (getP l j) w) := by
  have hw : IntKind.u64.wrap (l.length : Int) = l.length := by simp [IntKind.wrap, IntKind.bits, IntKind.signed]; omega
  have hb0 : Below w.heap.size w ((w.alloc (.cells #[.int .u8 o, .int .u64 j, .int .u64 b, .slice Ai n ci] 25)).alloc (.cells #[.int .u8 0, .int .u64 0] 86)) := below_two w _ _
  by_cases hj : j < l.length
  · obtain ⟨⟨t, m⟩, hx⟩ : ∃ x, l[j]? = some x := ⟨_, List.getElem?_eq_getElem hj⟩
    rw [getP_in hx]
    have hl2 := (hl.below (below_box w (.cells #[.int .u8 o, .int .u64 j, .int .u64 b, .slice Ai n ci] 25))).below (below_box _ (.cells #[.int .u8 0, .int .u64 0] 86))
    obtain ⟨bb, off, rfl, hbb, g0, g1⟩ := hl2 j t m hx
    have d : ¬ l.length ≤ j := by omega
    have d2 : decide ((l.length : Int) ≤ (j : Int)) = false := by simp; omega
    clear hx hl hl2 hb0
    go_enter Tryd.func107, Tryd.ntmps107
    go_wp2
    exact bodyPost_ret (v := retP ((t, m), 0)) (by simp [results, Tryd.results107, go_sem]) rfl ⟨rfl, below_two _ _ _⟩
  · rw [getP_out hj]
    have d : l.length ≤ j := by omega
    have d2 : decide ((l.length : Int) ≤ (j : Int)) = true := by simp; omega
    have HR : Whole ((w.alloc (.cells #[.int .u8 o, .int .u64 j, .int .u64 b, .slice Ai n ci] 25)).alloc (.cells #[.int .u8 0, .int .u64 0] 86)) (w.heap.size + 1) 86 #[.int .u8 0, .int .u64 0] := by
      have := Whole.made (w.alloc (.cells #[.int .u8 o, .int .u64 j, .int .u64 b, .slice Ai n ci] 25)) 86 #[.int .u8 0, .int .u64 0]
      rw [size_box] at this
      exact this
    have HR1 := HR.alloc (.cells #[.int .u8 0, .int .u64 0] 86)
    have f0 := HR1.frozen 0
    have f1 := HR1.frozen 1
    have m0 := HR1.cell 0
    have m1 := HR1.cell 1
    simp only [List.getElem?_toArray, List.getElem?_cons_zero, List.getElem?_cons_succ] at m0 m1
    have HQ := Lib.hid (hb0.alloc hb0.size (.cells #[.int .u8 0, .int .u64 0] 86))
    clear hl HR HR1 hb0 hj
    go_enter Tryd.func107, Tryd.ntmps107
    go_wp2
    exact bodyPost_ret (v := retP ((0, 0), 24)) (by simp [results, Tryd.results107, go_sem]) rfl ⟨rfl, HQ.out⟩
set_option maxHeartbeats 800000 in
theorem globalG_any {w : World} {A Ai : Option Addr} {c n ci : Nat} {l : List (Int × Bool)} {o b : Int} {j : Nat} (hl : LiesG w A l) (nl : (l.length : Int) ≤ 9223372036854775807) :
    Calls Tryd.prog 106 #[.agg #[.int .u8 o, .int .u64 j, .int .u64 b, .slice Ai n ci], .slice A l.length c] w (GPost (getG l j) w) := by
  have hw : IntKind.u64.wrap (l.length : Int) = l.length := by simp [IntKind.wrap, IntKind.bits, IntKind.signed]; omega
  have hb0 : Below w.heap.size w ((w.alloc (.cells #[.int .u8 o, .int .u64 j, .int .u64 b, .slice Ai n ci] 25)).alloc (.cells #[.int .u8 0, .bool false] 89)) := below_two w _ _
  by_cases hj : j < l.length
  · obtain ⟨⟨t, m⟩, hx⟩ : ∃ x, l[j]? = some x := ⟨_, List.getElem?_eq_getElem hj⟩
    rw [getG_in hx]
    have hl2 := (hl.below (below_box w (.cells #[.int .u8 o, .int .u64 j, .int .u64 b, .slice Ai n ci] 25))).below (below_box _ (.cells #[.int .u8 0, .bool false] 89))
    obtain ⟨bb, off, rfl, hbb, g0, g1⟩ := hl2 j t m hx
    have d : ¬ l.length ≤ j := by omega
    have d2 : decide ((l.length : Int) ≤ (j : Int)) = false := by simp; omega
    clear hx hl hl2 hb0
    go_enter Tryd.func106, Tryd.ntmps106
    go_wp2
    exact bodyPost_ret (v := retG ((t, m), 0)) (by simp [results, Tryd.results106, go_sem]) rfl ⟨rfl, below_two _ _ _⟩
  · rw [getG_out hj]
    have d : l.length ≤ j := by omega
    have d2 : decide ((l.length : Int) ≤ (j : Int)) = true := by simp; omega
    have HR : Whole ((w.alloc (.cells #[.int .u8 o, .int .u64 j, .int .u64 b, .slice Ai n ci] 25)).alloc (.cells #[.int .u8 0, .bool false] 89)) (w.heap.size + 1) 89 #[.int .u8 0, .bool false] := by
      have := Whole.made (w.alloc (.cells #[.int .u8 o, .int .u64 j, .int .u64 b, .slice Ai n ci] 25)) 89 #[.int .u8 0, .bool false]
      rw [size_box] at this
      exact this
    have HR1 := HR.alloc (.cells #[.int .u8 0, .bool false] 89)
    have f0 := HR1.frozen 0
    have f1 := HR1.frozen 1
    have m0 := HR1.cell 0
    have m1 := HR1.cell 1
    simp only [List.getElem?_toArray, List.getElem?_cons_zero, List.getElem?_cons_succ] at m0 m1
    have HQ := Lib.hid (hb0.alloc hb0.size (.cells #[.int .u8 0, .bool false] 89))
    clear hl HR HR1 hb0 hj
    go_enter Tryd.func106, Tryd.ntmps106
    go_wp2
    exact bodyPost_ret (v := retG ((0, false), 24)) (by simp [results, Tryd.results106, go_sem]) rfl ⟨rfl, HQ.out⟩

/-- What a constant expression comes to, where some globals' values are taken. -/
def valZ (i : I) (l : List (Int × Int)) : (Int × Int) × Int :=
  if crightZ i = 0 then (if i.n = 65 then ((127, i.a), 0) else if i.n = 66 then ((126, i.a), 0) else getP l i.a.toNat) else ((0, 0), crightZ i)
/-- .. and of which type. -/
def typZ (i : I) (l : List (Int × Bool)) : Int × Int :=
  if crightZ i = 0 then (if i.n = 65 then (127, 0) else if i.n = 66 then (126, 0) else match l[i.a.toNat]? with
    | some (t, m) => if m then (0, 24) else (t, 0)
    | none => (0, 24)) else (0, crightZ i)
/-- The instruction's box and the result's block. -/
structure VSt (w : World) (i : I) (A : Option Addr) (c : Nat) (W : World) : Prop where
  box : BoxI w W i A c
  res : Whole W (w.heap.size + 1) 86 #[.int .u8 0, .int .u64 0]
theorem VSt.on {w W W' : World} {i : I} {A : Option Addr} {c : Nat} (h : VSt w i A c W) (hb : Below W.heap.size W W') : VSt w i A c W' := ⟨h.box.on hb, h.res.below hb⟩
theorem VSt.start (w : World) (i : I) (A : Option Addr) (c : Nat) : VSt w i A c ((w.alloc (.cells (insC i A c) 25)).alloc (.cells #[.int .u8 0, .int .u64 0] 86)) := by
  have := Whole.made (w.alloc (.cells (insC i A c) 25)) 86 #[.int .u8 0, .int .u64 0]
  rw [size_box] at this
  exact ⟨(BoxI.start w i A c).on (below_box _ _), this⟩
theorem VSt.fin {w W : World} {i : I} {A : Option Addr} {c : Nat} (h : VSt w i A c W) (u0 u1 : Value) :
    Whole ((W.setCell ⟨w.heap.size + 1, 0, none⟩ u0).setCell ⟨w.heap.size + 1, 1, none⟩ u1) (w.heap.size + 1) 86 #[u0, u1] ∧ Below w.heap.size w ((W.setCell ⟨w.heap.size + 1, 0, none⟩ u0).setCell ⟨w.heap.size + 1, 1, none⟩ u1) :=
  put2_below u0 u1 h.res h.box.2 (by omega)
theorem op_isV {i : I} {n : Nat} (h : i.n = n) : ((i.op.toNat : Int) == n) = true := beq_iff_eq.2 (by have : i.op.toNat = n := h; omega)
theorem op_not {i : I} {n : Nat} (h : ¬ i.n = n) : ((i.op.toNat : Int) == n) = false := by have : ¬ i.op.toNat = n := h; simp; omega
set_option maxHeartbeats 1000000 in
theorem cvalue_any {w : World} {i : I} {A Av : Option Addr} {c cv : Nat} {l : List (Int × Int)} (oi : i.Ok) (hT : Tabs w) (hl : LiesP w Av l) (ni : (i.l.length : Int) ≤ 9223372036854775807) (nl : (l.length : Int) ≤ 9223372036854775807) :
    Calls Tryd.prog 55 #[insV i A c, .slice Av l.length cv] w (PPost (valZ i l) w) := by
  have H0 := Lib.hid (VSt.start w i A c)
  have HR := Lib.hid (cright_any i A c _ oi (hT.below (H0.out.box.bel)) ni)
  have hw : IntKind.u64.wrap (l.length : Int) = l.length := by simp [IntKind.wrap, IntKind.bits, IntKind.signed]; omega
  obtain ⟨j, hj⟩ : ∃ j : Nat, i.a = j := ⟨i.a.toNat, by have := oi.a0; omega⟩
  have HL := Lib.hid (fun W (hb : Below w.heap.size w W) => hl.below hb)
  by_cases h0 : crightZ i = 0
  · rw [h0] at HR
    by_cases h65 : i.n = 65
    · have HE := Lib.hid (show valZ i l = ((127, i.a), 0) by unfold valZ; rw [if_pos h0, if_pos h65])
      have d65 : ((i.op.toNat : Int) == 65) = true := op_isV h65
      clear h0 h65 hj hl oi hT HL
      go_enter Tryd.func55, Tryd.ntmps55
      go_wp2_with (go_at_call 47; go_must ((with_reducible refine HR.out.mono ?_); rintro e w1 ⟨rfl, hb⟩; have H1 := Lib.hid (H0.out.on hb); have c0 := H1.out.box.c0; have c1 := H1.out.box.c1; have c2 := H1.out.box.c2; have c3 := H1.out.box.c3; have f0 := H1.out.res.frozen 0; have f1 := H1.out.res.frozen 1; have m0 := H1.out.res.cell 0; have m1 := H1.out.res.cell 1; simp only [List.getElem?_toArray, List.getElem?_cons_zero, List.getElem?_cons_succ] at m0 m1; clear hb))
      obtain ⟨p, hq⟩ := H1.out.fin (.int .u8 127) (.int .u64 i.a)
      have q0 := p.cell 0
      have q1 := p.cell 1
      simp only [List.getElem?_toArray, List.getElem?_cons_zero, List.getElem?_cons_succ] at q0 q1
      exact bodyPost_ret (v := retP ((127, i.a), 0)) (by simp [results, Tryd.results55, go_sem, q0, q1]) rfl ⟨by rw [HE.out], hq⟩
    have d65 : ((i.op.toNat : Int) == 65) = false := op_not h65
    by_cases h66 : i.n = 66
    · have HE := Lib.hid (show valZ i l = ((126, i.a), 0) by unfold valZ; rw [if_pos h0, if_neg h65, if_pos h66])
      have d66 : ((i.op.toNat : Int) == 66) = true := op_isV h66
      clear h0 h65 h66 hj hl oi hT HL
      go_enter Tryd.func55, Tryd.ntmps55
      go_wp2_with (go_at_call 47; go_must ((with_reducible refine HR.out.mono ?_); rintro e w1 ⟨rfl, hb⟩; have H1 := Lib.hid (H0.out.on hb); have c0 := H1.out.box.c0; have c1 := H1.out.box.c1; have c2 := H1.out.box.c2; have c3 := H1.out.box.c3; have f0 := H1.out.res.frozen 0; have f1 := H1.out.res.frozen 1; have m0 := H1.out.res.cell 0; have m1 := H1.out.res.cell 1; simp only [List.getElem?_toArray, List.getElem?_cons_zero, List.getElem?_cons_succ] at m0 m1; clear hb))
      obtain ⟨p, hq⟩ := H1.out.fin (.int .u8 126) (.int .u64 i.a)
      have q0 := p.cell 0
      have q1 := p.cell 1
      simp only [List.getElem?_toArray, List.getElem?_cons_zero, List.getElem?_cons_succ] at q0 q1
      exact bodyPost_ret (v := retP ((126, i.a), 0)) (by simp [results, Tryd.results55, go_sem, q0, q1]) rfl ⟨by rw [HE.out], hq⟩
    have d66 : ((i.op.toNat : Int) == 66) = false := op_not h66
    have hv : valZ i l = getP l j := by unfold valZ; rw [if_pos h0, if_neg h65, if_neg h66, hj, Int.toNat_natCast]
    obtain ⟨r, hr⟩ : ∃ r, r = getP l j := ⟨_, rfl⟩
    have HG := Lib.hid (fun W (hb : Below w.heap.size w W) => show Calls Tryd.prog 107 #[insV i A c, .slice Av l.length cv] W (PPost r W) from by
      have := globalV_any (Ai := A) (c := cv) (n := i.l.length) (ci := c) (o := i.op.toNat) (b := i.b) (j := j) (HL.out W hb) nl
      rw [← hr, ← hj] at this
      exact this)
    rw [← hr] at hv
    obtain ⟨⟨rt, rn⟩, re⟩ := r
    have HG := Lib.hid (fun W (hb : Below w.heap.size w W) => show Calls Tryd.prog 107 #[insV i A c, .slice Av l.length cv] W (fun e w' => e = .returned (.tuple #[.agg #[.int .u8 rt, .int .u64 rn], .int .i64 re]) ∧ Below W.heap.size W w') from HG.out W hb)
    have HE := Lib.hid hv
    clear h0 h65 h66 hj hl oi hT HL hv hr
    go_enter Tryd.func55, Tryd.ntmps55
    go_wp2_with (first
      | (go_at_call 47; go_must ((with_reducible refine HR.out.mono ?_); rintro e w1 ⟨rfl, hb⟩; have H1 := Lib.hid (H0.out.on hb); have c0 := H1.out.box.c0; have c1 := H1.out.box.c1; have c2 := H1.out.box.c2; have c3 := H1.out.box.c3; have f0 := H1.out.res.frozen 0; have f1 := H1.out.res.frozen 1; have m0 := H1.out.res.cell 0; have m1 := H1.out.res.cell 1; simp only [List.getElem?_toArray, List.getElem?_cons_zero, List.getElem?_cons_succ] at m0 m1; clear hb))
      | (go_at_call 107; go_must ((with_reducible refine (HG.out _ H1.out.box.bel).mono ?_); rintro e w2 ⟨rfl, hb⟩; clear c0 c1 c2 c3 f0 f1 m0 m1; have H2 := Lib.hid (H1.out.on hb); have c0 := H2.out.box.c0; have c1 := H2.out.box.c1; have c2 := H2.out.box.c2; have c3 := H2.out.box.c3; have f0 := H2.out.res.frozen 0; have f1 := H2.out.res.frozen 1; have m0 := H2.out.res.cell 0; have m1 := H2.out.res.cell 1; simp only [List.getElem?_toArray, List.getElem?_cons_zero, List.getElem?_cons_succ] at m0 m1; clear hb)))
    obtain ⟨p, hq⟩ := H2.out.fin (.int .u8 rt) (.int .u64 rn)
    have q0 := p.cell 0
    have q1 := p.cell 1
    simp only [List.getElem?_toArray, List.getElem?_cons_zero, List.getElem?_cons_succ] at q0 q1
    exact bodyPost_ret (v := retP ((rt, rn), re)) (by simp [results, Tryd.results55, go_sem, q0, q1]) rfl ⟨by rw [HE.out], hq⟩
  · have hv : valZ i l = ((0, 0), crightZ i) := by unfold valZ; rw [if_neg h0]
    obtain ⟨z, hz⟩ : ∃ z, z = crightZ i := ⟨_, rfl⟩
    rw [← hz] at HR hv h0
    have HE := Lib.hid hv
    have dz : (z != 0) = true := by simpa using h0
    clear h0 hj hl oi hT HL hv hz
    go_enter Tryd.func55, Tryd.ntmps55
    go_wp2_with (go_at_call 47; go_must ((with_reducible refine HR.out.mono ?_); rintro e w1 ⟨rfl, hb⟩; have H1 := Lib.hid (H0.out.on hb); have c0 := H1.out.box.c0; have c1 := H1.out.box.c1; have c2 := H1.out.box.c2; have c3 := H1.out.box.c3; have f0 := H1.out.res.frozen 0; have f1 := H1.out.res.frozen 1; have m0 := H1.out.res.cell 0; have m1 := H1.out.res.cell 1; simp only [List.getElem?_toArray, List.getElem?_cons_zero, List.getElem?_cons_succ] at m0 m1; clear hb))
    obtain ⟨p, hq⟩ := H1.out.fin (.int .u8 0) (.int .u64 0)
    have q0 := p.cell 0
    have q1 := p.cell 1
    simp only [List.getElem?_toArray, List.getElem?_cons_zero, List.getElem?_cons_succ] at q0 q1
    exact bodyPost_ret (v := retP ((0, 0), z)) (by simp [results, Tryd.results55, go_sem, q0, q1]) rfl ⟨by rw [HE.out], hq⟩
set_option maxHeartbeats 1000000 in
theorem rvalue_any {w : World} {i : I} {A Av : Option Addr} {c cv : Nat} {l : List (Int × Int)} (oi : i.Ok) (hl : LiesP w Av l) (ni : (i.l.length : Int) ≤ 9223372036854775807) (nl : (l.length : Int) ≤ 9223372036854775807) :
    Calls Tryd.prog 57 #[insV i A c, .slice Av l.length cv] w (PPost (valZ i l) w) := by
  have H0 := Lib.hid (VSt.start w i A c)
  have HR := Lib.hid (rcright_any i A c ((w.alloc (.cells (insC i A c) 25)).alloc (.cells #[.int .u8 0, .int .u64 0] 86)) oi ni)
  have hw : IntKind.u64.wrap (l.length : Int) = l.length := by simp [IntKind.wrap, IntKind.bits, IntKind.signed]; omega
  obtain ⟨j, hj⟩ : ∃ j : Nat, i.a = j := ⟨i.a.toNat, by have := oi.a0; omega⟩
  have HL := Lib.hid (fun W (hb : Below w.heap.size w W) => hl.below hb)
  by_cases h0 : crightZ i = 0
  · rw [h0] at HR
    by_cases h65 : i.n = 65
    · have HE := Lib.hid (show valZ i l = ((127, i.a), 0) by unfold valZ; rw [if_pos h0, if_pos h65])
      have d65 : ((i.op.toNat : Int) == 65) = true := op_isV h65
      clear h0 h65 hj hl oi HL
      go_enter Tryd.func57, Tryd.ntmps57
      go_wp2_with (go_at_call 44; go_must ((with_reducible refine HR.out.mono ?_); rintro e w1 ⟨rfl, hb⟩; have H1 := Lib.hid (H0.out.on hb); have c0 := H1.out.box.c0; have c1 := H1.out.box.c1; have c2 := H1.out.box.c2; have c3 := H1.out.box.c3; have f0 := H1.out.res.frozen 0; have f1 := H1.out.res.frozen 1; have m0 := H1.out.res.cell 0; have m1 := H1.out.res.cell 1; simp only [List.getElem?_toArray, List.getElem?_cons_zero, List.getElem?_cons_succ] at m0 m1; clear hb))
      obtain ⟨p, hq⟩ := H1.out.fin (.int .u8 127) (.int .u64 i.a)
      have q0 := p.cell 0
      have q1 := p.cell 1
      simp only [List.getElem?_toArray, List.getElem?_cons_zero, List.getElem?_cons_succ] at q0 q1
      exact bodyPost_ret (v := retP ((127, i.a), 0)) (by simp [results, Tryd.results57, go_sem, q0, q1]) rfl ⟨by rw [HE.out], hq⟩
    have d65 : ((i.op.toNat : Int) == 65) = false := op_not h65
    by_cases h66 : i.n = 66
    · have HE := Lib.hid (show valZ i l = ((126, i.a), 0) by unfold valZ; rw [if_pos h0, if_neg h65, if_pos h66])
      have d66 : ((i.op.toNat : Int) == 66) = true := op_isV h66
      clear h0 h65 h66 hj hl oi HL
      go_enter Tryd.func57, Tryd.ntmps57
      go_wp2_with (go_at_call 44; go_must ((with_reducible refine HR.out.mono ?_); rintro e w1 ⟨rfl, hb⟩; have H1 := Lib.hid (H0.out.on hb); have c0 := H1.out.box.c0; have c1 := H1.out.box.c1; have c2 := H1.out.box.c2; have c3 := H1.out.box.c3; have f0 := H1.out.res.frozen 0; have f1 := H1.out.res.frozen 1; have m0 := H1.out.res.cell 0; have m1 := H1.out.res.cell 1; simp only [List.getElem?_toArray, List.getElem?_cons_zero, List.getElem?_cons_succ] at m0 m1; clear hb))
      obtain ⟨p, hq⟩ := H1.out.fin (.int .u8 126) (.int .u64 i.a)
      have q0 := p.cell 0
      have q1 := p.cell 1
      simp only [List.getElem?_toArray, List.getElem?_cons_zero, List.getElem?_cons_succ] at q0 q1
      exact bodyPost_ret (v := retP ((126, i.a), 0)) (by simp [results, Tryd.results57, go_sem, q0, q1]) rfl ⟨by rw [HE.out], hq⟩
    have d66 : ((i.op.toNat : Int) == 66) = false := op_not h66
    have hv : valZ i l = getP l j := by unfold valZ; rw [if_pos h0, if_neg h65, if_neg h66, hj, Int.toNat_natCast]
    have HJ := Lib.hid hj
    by_cases hlt : j < l.length
    · obtain ⟨⟨t, n⟩, hx⟩ : ∃ x, l[j]? = some x := ⟨_, List.getElem?_eq_getElem hlt⟩
      rw [getP_in hx] at hv
      have HE := Lib.hid hv
      have HX := Lib.hid (fun W (hb : Below w.heap.size w W) => HL.out W hb j t n hx)
      have d : ¬ l.length ≤ j := by omega
      have d2 : decide ((l.length : Int) ≤ (j : Int)) = false := by simp; omega
      clear h0 h65 h66 hj hl oi HL hv hx
      go_enter Tryd.func57, Tryd.ntmps57
      go_wp2_with (go_at_call 44; go_must ((with_reducible refine HR.out.mono ?_); rintro e w1 ⟨rfl, hb⟩; have H1 := Lib.hid (H0.out.on hb); have c0 := H1.out.box.c0; have c1 : w1.cell? ⟨w.heap.size, 1, none⟩ = some (.int .u64 (j : Int)) := (by rw [← HJ.out]; exact H1.out.box.c1); have c2 := H1.out.box.c2; have c3 := H1.out.box.c3; have f0 := H1.out.res.frozen 0; have f1 := H1.out.res.frozen 1; have m0 := H1.out.res.cell 0; have m1 := H1.out.res.cell 1; simp only [List.getElem?_toArray, List.getElem?_cons_zero, List.getElem?_cons_succ] at m0 m1; obtain ⟨bb, off, rfl, _, g0, g1⟩ := HX.out w1 H1.out.box.bel; clear hb))
      obtain ⟨p, hq⟩ := H1.out.fin (.int .u8 t) (.int .u64 n)
      have q0 := p.cell 0
      have q1 := p.cell 1
      simp only [List.getElem?_toArray, List.getElem?_cons_zero, List.getElem?_cons_succ] at q0 q1
      exact bodyPost_ret (v := retP ((t, n), 0)) (by simp [results, Tryd.results57, go_sem, q0, q1]) rfl ⟨by rw [HE.out], hq⟩
    · rw [getP_out hlt] at hv
      have HE := Lib.hid hv
      have d : l.length ≤ j := by omega
      have d2 : decide ((l.length : Int) ≤ (j : Int)) = true := by simp; omega
      clear h0 h65 h66 hj hl oi HL hv hlt
      go_enter Tryd.func57, Tryd.ntmps57
      go_wp2_with (go_at_call 44; go_must ((with_reducible refine HR.out.mono ?_); rintro e w1 ⟨rfl, hb⟩; have H1 := Lib.hid (H0.out.on hb); have c0 := H1.out.box.c0; have c1 : w1.cell? ⟨w.heap.size, 1, none⟩ = some (.int .u64 (j : Int)) := (by rw [← HJ.out]; exact H1.out.box.c1); have c2 := H1.out.box.c2; have c3 := H1.out.box.c3; have f0 := H1.out.res.frozen 0; have f1 := H1.out.res.frozen 1; have m0 := H1.out.res.cell 0; have m1 := H1.out.res.cell 1; simp only [List.getElem?_toArray, List.getElem?_cons_zero, List.getElem?_cons_succ] at m0 m1; clear hb))
      obtain ⟨p, hq⟩ := H1.out.fin (.int .u8 0) (.int .u64 0)
      have q0 := p.cell 0
      have q1 := p.cell 1
      simp only [List.getElem?_toArray, List.getElem?_cons_zero, List.getElem?_cons_succ] at q0 q1
      exact bodyPost_ret (v := retP ((0, 0), 24)) (by simp [results, Tryd.results57, go_sem, q0, q1]) rfl ⟨by rw [HE.out], hq⟩
  · have hv : valZ i l = ((0, 0), crightZ i) := by unfold valZ; rw [if_neg h0]
    obtain ⟨z, hz⟩ : ∃ z, z = crightZ i := ⟨_, rfl⟩
    rw [← hz] at HR hv h0
    have HE := Lib.hid hv
    have dz : (z != 0) = true := by simpa using h0
    clear h0 hj hl oi HL hv hz
    go_enter Tryd.func57, Tryd.ntmps57
    go_wp2_with (go_at_call 44; go_must ((with_reducible refine HR.out.mono ?_); rintro e w1 ⟨rfl, hb⟩; have H1 := Lib.hid (H0.out.on hb); have c0 := H1.out.box.c0; have c1 := H1.out.box.c1; have c2 := H1.out.box.c2; have c3 := H1.out.box.c3; have f0 := H1.out.res.frozen 0; have f1 := H1.out.res.frozen 1; have m0 := H1.out.res.cell 0; have m1 := H1.out.res.cell 1; simp only [List.getElem?_toArray, List.getElem?_cons_zero, List.getElem?_cons_succ] at m0 m1; clear hb))
    obtain ⟨p, hq⟩ := H1.out.fin (.int .u8 0) (.int .u64 0)
    have q0 := p.cell 0
    have q1 := p.cell 1
    simp only [List.getElem?_toArray, List.getElem?_cons_zero, List.getElem?_cons_succ] at q0 q1
    exact bodyPost_ret (v := retP ((0, 0), z)) (by simp [results, Tryd.results57, go_sem, q0, q1]) rfl ⟨by rw [HE.out], hq⟩
end Go.Proofs.YticgmfeihdankaaDoor
