/- slices.Equal of labels; instr.Same; the reference's Same. -/
import Derived.Test.YtebgmfjgapmpfabGreatDoorQf02
import Derived.RegionTactic
import Derived.Test.YtebgmfjgapmpfabGreatDoorQe01
namespace Go.Proofs.YtebgmfjgapmpfabGreatDoor
open Go.RowKit
set_option linter.unusedVariables false
set_option maxRecDepth 100000

def LiesL (w : World) (A : Option Addr) (l : List Int) : Prop := Lies w w.heap.size A (cells32 l)
theorem LiesL.below {w w' : World} {A : Option Addr} {l : List Int} (h : LiesL w A l) (hb : Below w.heap.size w w') : LiesL w' A l := (Lies.below h hb (Nat.le_refl _)).more hb.size
theorem LiesL.at {w : World} {A : Option Addr} {l : List Int} (h : LiesL w A l) {i : Nat} {d : Int} (hd : l[i]? = some d) : ∃ b off, A = some ⟨b, off, none⟩ ∧ b < w.heap.size ∧ w.cell? ⟨b, off + i, none⟩ = some (.int .u32 d) := by
  obtain ⟨b, off, e, hb, hc⟩ := h i _ (cells32_get hd)
  exact ⟨b, off, e, hb, hc⟩
/-- The first k of two lists are the same. -/
def Eqs (a b : List Int) (k : Nat) : Prop := ∀ j, j < k → a[j]? = b[j]?
theorem Eqs.all {a b : List Int} {n : Nat} (h : Eqs a b n) (ha : a.length = n) (hb : b.length = n) : a = b := by
  apply List.ext_getElem?
  intro j
  rcases Nat.lt_or_ge j n with g | g
  · exact h j g
  · rw [List.getElem?_eq_none (by omega), List.getElem?_eq_none (by omega)]
def BoolPost (p : Bool) (w : World) (e : Ending) (w' : World) : Prop := e = .returned (.bool p) ∧ Below w.heap.size w w'
/-- Are two instructions the same? -/
def sameZ (i k : I) : Bool := decide (i.op = k.op) && decide (i.a = k.a) && decide (i.b = k.b) && decide (i.l = k.l)
theorem below_twoI (w : World) (i k : I) (A B : Option Addr) (c d : Nat) : Below w.heap.size w ((w.alloc (.cells (insC i A c) 59)).alloc (.cells (insC k B d) 59)) := (below_box w _).alloc (by simp) _
theorem same_no {i k : I} {w W : World} (h : ¬ (i.op = k.op ∧ i.a = k.a ∧ i.b = k.b ∧ i.l = k.l)) (hb : Below w.heap.size w W) : BoolPost (sameZ i k) w (.returned (.bool false)) W := by
  refine ⟨ret_bool ?_, hb⟩
  unfold sameZ
  by_cases h1 : i.op = k.op
  · by_cases h2 : i.a = k.a
    · by_cases h3 : i.b = k.b
      · have h4 : ¬ i.l = k.l := fun e => h ⟨h1, h2, h3, e⟩
        simp [h4]
      · simp [h3]
    · simp [h2]
  · simp [h1]
theorem op_ne {a b : UInt8} (h : a ≠ b) : ((a.toNat : Int) == b.toNat) = false := by
  simp
  intro e
  exact h (UInt8.toNat_inj.1 (by omega))
theorem op_eq (a : UInt8) : ((a.toNat : Int) == a.toNat) = true := by simp
set_option maxHeartbeats 2000000 in
theorem refSame_any {w : World} {A B : Option Addr} {c d : Nat} {i k : I} (ha : LiesL w A i.l) (hb : LiesL w B k.l) (na : i.l.length ≤ 100000) (nb : k.l.length ≤ 100000) :
    Calls Tryz.prog 47 #[insV i A c, insV k B d] w (BoolPost (sameZ i k) w) := by
  have HB2 := Lib.hid (below_twoI w i k A B c d)
  have HA := Lib.hid (ha.below HB2.out)
  have HB := Lib.hid (hb.below HB2.out)
  clear ha hb
  by_cases h1 : i.op = k.op
  · have d1 : ((i.op.toNat : Int) != k.op.toNat) = false := by rw [h1]; simp
    by_cases h2 : i.a = k.a
    · have d2 : (i.a != k.a) = false := by simpa using h2
      by_cases h3 : i.b = k.b
      · have d3 : (i.b != k.b) = false := by simpa using h3
        have HE := Lib.hid (show sameZ i k = decide (i.l = k.l) by unfold sameZ; simp [h1, h2, h3])
        by_cases h4 : i.l.length = k.l.length
        · have d4 : ((i.l.length : Int) != k.l.length) = false := by rw [h4]; simp
          have HL := Lib.hid h4
          clear h1 h2 h3 h4
          go_enter Tryz.func47, Tryz.ntmps47
          go_wp2
          generalize hW : ((w.alloc (.cells (insC i A c) 59)).alloc (.cells (insC k B d) 59)) = W at *
          have x3 : W.cell? ⟨w.heap.size, 3, none⟩ = some (.slice A i.l.length c) := by rw [← hW]; exact ((Whole.made w 59 (insC i A c)).alloc _).cell 3
          have y3 : W.cell? ⟨w.heap.size + 1, 3, none⟩ = some (.slice B k.l.length d) := by
            rw [← hW]
            have := Whole.made (w.alloc (.cells (insC i A c) 59)) 59 (insC k B d)
            rw [size_box] at this
            exact this.cell 3
          clear hW
          go_loopw [5] (fun s wr => ∃ j q : Nat, j ≤ i.l.length ∧ s = .int .i64 j ∧ wr = W.drewN q ∧ Eqs i.l k.l j) (fun s _ => i.l.length - (intOf s).toNat)
          case atStart => exact ⟨0, 0, Nat.zero_le _, rfl, rfl, fun j hj => absurd hj (Nat.not_lt_zero _)⟩
          case round =>
            obtain ⟨j, q, hj, rfl, rfl, heq⟩ := hrel
            by_cases hlt : j < i.l.length
            · obtain ⟨x, hx⟩ : ∃ x, i.l[j]? = some x := ⟨_, List.getElem?_eq_getElem hlt⟩
              obtain ⟨y, hy⟩ : ∃ y, k.l[j]? = some y := ⟨_, List.getElem?_eq_getElem (by rw [← HL.out]; exact hlt)⟩
              obtain ⟨b1, o1, rfl, _, g1⟩ := HA.out.at hx
              obtain ⟨b2, o2, rfl, _, g2⟩ := HB.out.at hy
              have hlt2 : j < k.l.length := by rw [← HL.out]; exact hlt
              have HE2 := Lib.hid heq
              have HX := Lib.hid hx
              have HY := Lib.hid hy
              clear heq hx hy
              by_cases hxy : x = y
              · have HXY := Lib.hid hxy
                have hc : (x != y) = false := by simpa using hxy
                clear hxy
                go_wp2_with fail
                go_region
                go_wp2
                go_roundw
                case measure => simp [intOf]; omega
                case rel =>
                  refine ⟨j + 1, q + 1, by omega, by go_num, rfl, fun u hu => ?_⟩
                  by_cases e : u = j
                  · subst e
                    rw [HX.out, HY.out, HXY.out]
                  · exact HE2.out u (by omega)
              · have HXY := Lib.hid hxy
                have hc : (x != y) = true := by simpa using hxy
                clear hxy
                go_wp2_with fail
                go_region
                go_wp2
                go_ret
                refine ⟨ret_bool ?_, below_drewN HB2.out _⟩
                have : ¬ i.l = k.l := fun e => HXY.out (by have h1 := HX.out; have h2 := HY.out; rw [e, h2] at h1; injection h1 with h1; exact h1.symm)
                rw [HE.out, decide_eq_false this]
            · have hjj : j = i.l.length := by omega
              subst hjj
              have hab : i.l = k.l := heq.all rfl HL.out.symm
              clear heq
              go_wp2
              go_ret
              exact ⟨ret_bool (by rw [HE.out, decide_eq_true hab]), below_drewN HB2.out _⟩
        · have d4 : ((i.l.length : Int) != k.l.length) = true := by simp; omega
          have HNO := Lib.hid (fun W hb => same_no (i := i) (k := k) (w := w) (W := W) (fun h => h4 (by rw [h.2.2.2])) hb)
          clear h1 h2 h3 h4
          go_enter Tryz.func47, Tryz.ntmps47
          go_wp2
          go_ret
          exact HNO.out _ HB2.out
      · have d3 : (i.b != k.b) = true := by simpa using h3
        have HNO := Lib.hid (fun W hb => same_no (i := i) (k := k) (w := w) (W := W) (fun h => h3 h.2.2.1) hb)
        clear h1 h2 h3
        go_enter Tryz.func47, Tryz.ntmps47
        go_wp2
        go_ret
        exact HNO.out _ HB2.out
    · have d2 : (i.a != k.a) = true := by simpa using h2
      have HNO := Lib.hid (fun W hb => same_no (i := i) (k := k) (w := w) (W := W) (fun h => h2 h.2.1) hb)
      clear h1 h2
      go_enter Tryz.func47, Tryz.ntmps47
      go_wp2
      go_ret
      exact HNO.out _ HB2.out
  · have d1 : ((i.op.toNat : Int) != k.op.toNat) = true := by have := op_ne h1; simp at this ⊢; exact this
    have HNO := Lib.hid (fun W hb => same_no (i := i) (k := k) (w := w) (W := W) (fun h => h1 h.1) hb)
    clear h1
    go_enter Tryz.func47, Tryz.ntmps47
    go_wp2
    go_ret
    exact HNO.out _ HB2.out
end Go.Proofs.YtebgmfjgapmpfabGreatDoor

/- A list of instructions that lies somewhere; Shape, the reference's Walk and Shape. -/
namespace Go.Proofs.YtebgmfjgapmpfabGreatDoor
open Go.RowKit
set_option linter.unusedVariables false
set_option maxRecDepth 100000

/-- The instructions lie at A, one behind the other, each with its labels. -/
def Ins (w : World) (A : Option Addr) (l : List I) : Prop :=
  ∀ j i, l[j]? = some i → ∃ b off B c, A = some ⟨b, off, none⟩ ∧ b < w.heap.size ∧ (w.cell? ⟨b, off + j * 4, none⟩ = some (.int .u8 i.op.toNat) ∧ w.cell? ⟨b, off + j * 4 + 1, none⟩ = some (.int .u64 i.a) ∧
    w.cell? ⟨b, off + j * 4 + 2, none⟩ = some (.int .u64 i.b) ∧ w.cell? ⟨b, off + j * 4 + 3, none⟩ = some (.slice B i.l.length c)) ∧ LiesL w B i.l
theorem Ins.below {w w' : World} {A : Option Addr} {l : List I} (h : Ins w A l) (hb : Below w.heap.size w w') : Ins w' A l := fun j i hi => by
  obtain ⟨b, off, B, c, e, h1, ⟨k0, k1, k2, k3⟩, hl⟩ := h j i hi
  exact ⟨b, off, B, c, e, Nat.lt_of_lt_of_le h1 hb.size, ⟨(hb.cell (p := ⟨b, _, none⟩) h1).trans k0, (hb.cell (p := ⟨b, _, none⟩) h1).trans k1, (hb.cell (p := ⟨b, _, none⟩) h1).trans k2, (hb.cell (p := ⟨b, _, none⟩) h1).trans k3⟩, hl.below hb⟩
def opsOf (l : List I) : List UInt8 := l.map (·.op)
def shapeZ (l : List I) : Int := if shapeGo [] (opsOf l) = true then 0 else 30
theorem ops_drop {l : List I} {k : Nat} {i : I} (h : l[k]? = some i) : (opsOf l).drop k = i.op :: (opsOf l).drop (k + 1) := by
  unfold opsOf
  have hk := (List.getElem?_eq_some_iff.1 h)
  obtain ⟨h1, h2⟩ := hk
  rw [List.drop_eq_getElem_cons (by simpa using h1)]
  simp [h2]
/-- The total, seen from where the walk stands. -/
def Stand (l : List I) (k : Nat) (st : List UInt8) (en : Bool) : Prop := shapeGo [] (opsOf l) = (if en then ((opsOf l).drop k).isEmpty else shapeGo st ((opsOf l).drop k))
theorem Stand.step {l : List I} {k : Nat} {st : List UInt8} {i : I} (h : Stand l k st false) (hi : l[k]? = some i) : match addZ st i.op with
    | none => shapeGo [] (opsOf l) = false
    | some (st', en) => Stand l (k + 1) st' en := by
  unfold Stand at h
  rw [if_neg (by simp), ops_drop hi, shape_add] at h
  cases ha : addZ st i.op with
  | none => rw [ha] at h; exact h
  | some q =>
    obtain ⟨st', en⟩ := q
    rw [ha] at h
    cases en
    · exact h
    · exact h
theorem addZ_len {st st' : List UInt8} {op : UInt8} {en : Bool} (h : addZ st op = some (st', en)) : st'.length ≤ st.length + 1 := by
  unfold addZ at h
  repeat' split at h
  all_goals first | (injection h with h; injection h with h1 h2; subst h1; simp; omega) | (injection h with h; injection h with h1 h2; subst h1; simp) | cases h
/-- nest at block nb: its two cells, its row. -/
def Nest (w : World) (nb base : Nat) (st : List UInt8) (en : Bool) : Prop := ∃ v, Whole w nb 142 #[v, .bool en] ∧ Row w base v st
theorem Moved.below {nb base : Nat} {v : Value} {st st0 : List UInt8} {en : Bool} {W W' : World} (h : Moved nb base v st en W W') (hr : Row W base v st0) (hb : base ≤ W.heap.size) (hnb : base ≤ nb) : Below base W W' := by
  obtain ⟨v', Wm, h1, h2, h3, h4⟩ := h
  have b1 : Below base W Wm := Below.grown (Below.refl _ _) h3 hb (fun k hk => (World.ownsRow.lt hr k hk).1)
  exact Below.grown b1 h4 (Nat.le_trans hb h3.size) (fun k hk => by injection hk with hk; omega)
theorem Moved.nest {nb base : Nat} {v : Value} {st : List UInt8} {en : Bool} {W W' : World} (h : Moved nb base v st en W W') : Nest W' nb base st en := by
  obtain ⟨v', Wm, h1, h2, h3, h4⟩ := h
  exact ⟨v', h1, h2⟩
set_option maxHeartbeats 1000000 in
theorem shape_any {w : World} {A : Option Addr} {c : Nat} {l : List I} (hT : Tabs w) (hl : Ins w A l) (hn : l.length ≤ 20000) :
    Calls Tryz.prog 91 #[.slice A l.length c] w (IntPost (shapeZ l) w) := by
  have HL := Lib.hid hl
  have HT := Lib.hid hT
  have HN0 := Lib.hid (Whole.made w 142 #[.slice none 0 0, .bool false])
  obtain ⟨n, hnn⟩ : ∃ n, n = l.length := ⟨_, rfl⟩
  rw [← hnn] at hn ⊢
  have HNN := Lib.hid hnn
  have g0 : decide (20000 < (n : Int)) = false := decide_eq_false (by omega)
  clear hT hl hnn
  go_enter Tryz.func91, Tryz.ntmps91
  go_wp2
  go_loopw [11] (fun i wr => ∃ (k : Nat) (st : List UInt8) (en : Bool), k ≤ n ∧ i = .int .i64 k ∧ Nest wr w.heap.size w.heap.size st en ∧ st.length ≤ k ∧ Stand l k st en ∧ Below w.heap.size w wr ∧ w.heap.size < wr.heap.size) (fun i _ => n - (intOf i).toNat)
  case atStart => exact ⟨0, [], false, Nat.zero_le _, rfl, ⟨_, HN0.out, Row.nil _ _⟩, Nat.le_refl _, rfl, below_box w _, by simp⟩
  case round =>
    obtain ⟨k, st, en, hk, rfl, ⟨v, hnw, hrow⟩, hsl, hst, hb, hlt0⟩ := hrel
    by_cases hlt : k < n
    · obtain ⟨i, hi⟩ : ∃ i, l[k]? = some i := ⟨_, List.getElem?_eq_getElem (by rw [← HNN.out]; exact hlt)⟩
      obtain ⟨b, off, B, cc, rfl, hbl, ⟨k0, k1, k2, k3⟩, _⟩ := HL.out k i hi
      have m0 := (hb.cell (p := ⟨b, off + k * 4, none⟩) hbl).trans k0
      have m1 := (hb.cell (p := ⟨b, off + k * 4 + 1, none⟩) hbl).trans k1
      have m2 := (hb.cell (p := ⟨b, off + k * 4 + 2, none⟩) hbl).trans k2
      have m3 := (hb.cell (p := ⟨b, off + k * 4 + 3, none⟩) hbl).trans k3
      have HB := Lib.hid hb
      have HRW := Lib.hid (hrow.alloc (.cells (insC i B cc) 59))
      have HNW := Lib.hid (hnw.alloc (.cells (insC i B cc) 59))
      have HT2 := Lib.hid ((HT.out.below hb).below (below_box wr (.cells (insC i B cc) 59)))
      have hle : w.heap.size ≤ (wr.alloc (.cells (insC i B cc) 59)).heap.size := by rw [size_box]; omega
      cases en with
      | true =>
        have HS : Hid (shapeZ l = 30) := by
          unfold Stand at hst
          rw [if_pos rfl, ops_drop hi] at hst
          show shapeZ l = 30
          unfold shapeZ
          rw [hst, if_neg (by simp)]
        have HA := Lib.hid (add_ended HNW.out i.op)
        clear hnw hrow hst hb k0 k1 k2 k3 hi
        go_wp2_with (go_at_call 111; go_must ((with_reducible refine HA.out.mono ?_); rintro e w2 ⟨rfl, rfl⟩))
        go_ret
        exact ret_below HS.out.symm (HB.out.alloc (by omega) _)
      | false =>
        have hstep := hst.step hi
        cases ha : addZ st i.op with
        | none =>
          rw [ha] at hstep
          have HS : Hid (shapeZ l = 30) := by
            show shapeZ l = 30
            unfold shapeZ
            rw [hstep, if_neg (by simp)]
          have HA := Lib.hid (add_no HT2.out HNW.out HRW.out (by omega) ha)
          clear hnw hrow hst hb k0 k1 k2 k3 hi hstep ha
          go_wp2_with (go_at_call 111; go_must ((with_reducible refine HA.out.mono ?_); rintro e w2 ⟨rfl, hb2⟩; have HB2 := Lib.hid hb2; clear hb2))
          go_ret
          exact ret_below HS.out.symm ((HB.out.alloc (by omega) _).trans (HB2.out.mono hle))
        | some q =>
          obtain ⟨st', en'⟩ := q
          rw [ha] at hstep
          have HS := Lib.hid hstep
          have hl2 := addZ_len ha
          have HA := Lib.hid (add_ok HT2.out HNW.out HRW.out hle (by omega) ha)
          clear hnw hrow hst hb k0 k1 k2 k3 hi hstep ha
          go_wp2_with (go_at_call 111; go_must ((with_reducible refine HA.out.mono ?_); rintro e w2 ⟨rfl, hm⟩; have HM := Lib.hid hm; clear hm))
          go_roundw
          case rel =>
            have hbb := HM.out.below HRW.out hle (Nat.le_refl _)
            exact ⟨k + 1, st', en', by omega, by go_num, HM.out.nest, by omega, HS.out, (HB.out.alloc (by omega) _).trans hbb, by have := hbb.size; rw [size_box] at this; omega⟩
          case measure => simp [intOf]; omega
    · obtain rfl : k = n := by omega
      have c1 := hnw.cell 1
      simp only [List.getElem?_toArray, List.getElem?_cons_zero, List.getElem?_cons_succ] at c1
      have hd : (opsOf l).drop k = [] := List.drop_eq_nil_of_le (by unfold opsOf; rw [List.length_map, HNN.out]; exact Nat.le_refl _)
      unfold Stand at hst
      rw [hd] at hst
      have HB := Lib.hid hb
      cases en with
      | true =>
        have HS : Hid (shapeZ l = 0) := by show shapeZ l = 0; unfold shapeZ; rw [hst]; rfl
        clear hnw hrow hst hb hd
        go_wp2
        go_ret
        exact ret_below HS.out.symm HB.out
      | false =>
        have HS : Hid (shapeZ l = 30) := by
          show shapeZ l = 30
          unfold shapeZ
          rw [hst, if_neg (by unfold shapeGo; simp)]
        clear hnw hrow hst hb hd
        go_wp2
        go_ret
        exact ret_below HS.out.symm HB.out
end Go.Proofs.YtebgmfjgapmpfabGreatDoor

/- Bodies as plain data: groups of locals, instructions; the reference's Locals, Much. -/
namespace Go.Proofs.YtebgmfjgapmpfabGreatDoor
open Go.RowKit
set_option linter.unusedVariables false
set_option maxRecDepth 100000

/-- A group of locals; a body. -/
structure Lo where
  n : UInt32
  t : UInt8
structure Bd where
  ls : List Lo
  b : List I
abbrev bdC (x : Bd) (L : Option Addr) (l : Nat) (B : Option Addr) (c : Nat) : Array Value := #[.slice L x.ls.length l, .slice B x.b.length c]
abbrev bdV (x : Bd) (L : Option Addr) (l : Nat) (B : Option Addr) (c : Nat) : Value := .agg (bdC x L l B c)
abbrev bdZ : Array Value := #[.slice none 0 0, .slice none 0 0]
abbrev TwoB (W : World) (b : Nat) (x : Bd) (L : Option Addr) (l : Nat) (B : Option Addr) (c : Nat) : Prop :=
  W.cell? ⟨b, 0, none⟩ = some (.slice L x.ls.length l) ∧ W.cell? ⟨b, 1, none⟩ = some (.slice B x.b.length c)
theorem Whole.bd {w : World} {b : Nat} {t : TypeId} {x : Bd} {L : Option Addr} {l : Nat} {B : Option Addr} {c : Nat} (h : Whole w b t (bdC x L l B c)) : TwoB w b x L l B c := ⟨h.cell 0, h.cell 1⟩
/-- A block that holds a body, in a world grown from B: what is held of it. -/
abbrev BxBd (W0 : World) (b : Nat) (x : Bd) (L : Option Addr) (l : Nat) (B : Option Addr) (c : Nat) (W : World) : Prop := (Whole W b 28 (bdC x L l B c) ∧ Below W0.heap.size W0 W) ∧ TwoB W b x L l B c
section
variable {W0 W W' : World} {b : Nat} {x : Bd} {L : Option Addr} {l : Nat} {B : Option Addr} {c : Nat}
theorem bxBd_on (h : BxBd W0 b x L l B c W) (hb : Below W.heap.size W W') : BxBd W0 b x L l B c W' := ⟨⟨h.1.1.below hb, h.1.2.trans (hb.mono h.1.2.size)⟩, (h.1.1.below hb).bd⟩
theorem bxBd_start (w : World) (x : Bd) (L : Option Addr) (l : Nat) (B : Option Addr) (c : Nat) : BxBd w w.heap.size x L l B c (w.alloc (.cells (bdC x L l B c) 28)) := ⟨⟨Whole.made _ _ _, below_box _ _⟩, (Whole.made w 28 (bdC x L l B c)).bd⟩
theorem bxBd_bel (h : BxBd W0 b x L l B c W) : Below W0.heap.size W0 W := h.1.2
end
/-- The slice at A reads as these groups. -/
def Los (w : World) (A : Option Addr) (l : List Lo) : Prop :=
  ∀ j x, l[j]? = some x → ∃ b off, A = some ⟨b, off, none⟩ ∧ b < w.heap.size ∧ w.cell? ⟨b, off + j * 2, none⟩ = some (.int .u32 x.n.toNat) ∧ w.cell? ⟨b, off + j * 2 + 1, none⟩ = some (.int .u8 x.t.toNat)
theorem Los.below {w w' : World} {A : Option Addr} {l : List Lo} (h : Los w A l) (hb : Below w.heap.size w w') : Los w' A l := fun j x hx => by
  obtain ⟨b, off, e, h1, h2, h3⟩ := h j x hx
  exact ⟨b, off, e, Nat.lt_of_lt_of_le h1 hb.size, (hb.cell (p := ⟨b, _, none⟩) h1).trans h2, (hb.cell (p := ⟨b, _, none⟩) h1).trans h3⟩
/-- How many locals behind n; -1: too many. -/
def locGo : Nat → List Lo → Int
  | n, [] => n
  | n, x :: r => if 1000 < x.n.toNat ∨ 1000 < n + x.n.toNat then -1 else locGo (n + x.n.toNat) r
theorem lo_drop {l : List Lo} {k : Nat} {x : Lo} (h : l[k]? = some x) : l.drop k = x :: l.drop (k + 1) := by
  obtain ⟨h1, h2⟩ := List.getElem?_eq_some_iff.1 h
  rw [List.drop_eq_getElem_cons h1, h2]
theorem locGo_ge : ∀ (n : Nat) (l : List Lo), locGo n l < 0 → locGo n l = -1
  | n, [], h => by unfold locGo at h; omega
  | n, x :: r, h => by
    unfold locGo at h ⊢
    by_cases e : 1000 < x.n.toNat ∨ 1000 < n + x.n.toNat
    · rw [if_pos e]
    · rw [if_neg e] at h ⊢
      exact locGo_ge _ r h
/-- Their types, one for each local. -/
def typL (l : List Lo) : List UInt8 := l.flatMap fun x => List.replicate x.n.toNat x.t
theorem typL_len : ∀ (n : Nat) (l : List Lo), 0 ≤ locGo n l → locGo n l = n + (typL l).length ∧ (n ≤ 1000 → n + (typL l).length ≤ 1000)
  | n, [], h => by simp [locGo, typL]
  | n, x :: r, h => by
    unfold locGo at h ⊢
    by_cases e : 1000 < x.n.toNat ∨ 1000 < n + x.n.toNat
    · rw [if_pos e] at h; omega
    · rw [if_neg e] at h ⊢
      obtain ⟨h1, h2⟩ := typL_len _ r h
      have h3 : (typL (x :: r)).length = x.n.toNat + (typL r).length := by unfold typL; rw [List.flatMap_cons, List.length_append, List.length_replicate]
      rw [h3]
      refine ⟨by rw [h1]; omega, fun _ => by have := h2 (by omega); omega⟩
set_option maxHeartbeats 2000000 in
theorem rloc_any {w : World} {A : Option Addr} {c : Nat} {l : List Lo} (hl : Los w A l) (hn : (l.length : Int) ≤ 9223372036854775807) :
    Calls Tryz.prog 57 #[.slice A l.length c] w fun e w' => e = .returned (.int .i64 (locGo 0 l)) ∧ w = w' := by
  have HL := Lib.hid hl
  obtain ⟨R, hR⟩ : ∃ R, R = locGo 0 l := ⟨_, rfl⟩
  have HR := Lib.hid hR
  rw [← hR]
  obtain ⟨n, hnn⟩ : ∃ n, n = l.length := ⟨_, rfl⟩
  have HNN := Lib.hid hnn
  rw [← hnn] at hn ⊢
  clear hl hnn hR
  go_enter Tryz.func57, Tryz.ntmps57
  go_wp2
  go_loopw [3, 4] (fun s i wr => ∃ (k m : Nat), k ≤ n ∧ i = .int .i64 k ∧ s = .int .i64 m ∧ m ≤ 1000 ∧ locGo m (l.drop k) = R ∧ wr = w) (fun _ i _ => n - (intOf i).toNat)
  case atStart => exact ⟨0, 0, Nat.zero_le _, rfl, rfl, by omega, HR.out.symm, rfl⟩
  case round =>
    obtain ⟨k, m, hk, rfl, rfl, hm, hg, rfl⟩ := hrel
    by_cases hlt : k < n
    · obtain ⟨x, hx⟩ : ∃ x, l[k]? = some x := ⟨_, List.getElem?_eq_getElem (by rw [← HNN.out]; exact hlt)⟩
      obtain ⟨b, off, rfl, hbl, c0, c1⟩ := HL.out k x hx
      rw [lo_drop hx] at hg
      unfold locGo at hg
      have hxn := x.n.toNat_lt
      obtain ⟨v, hv⟩ : ∃ v, v = x.n.toNat := ⟨_, rfl⟩
      rw [← hv] at hg c0 hxn
      have wv : IntKind.i64.wrap (v : Int) = v := by rw [IntKind.wrap_i64]; omega
      have ws : IntKind.i64.wrap ((m : Int) + (v : Int)) = (m : Int) + (v : Int) := by rw [IntKind.wrap_i64]; omega
      by_cases h1 : 1000 < v
      · rw [if_pos (.inl h1)] at hg
        have d1 : decide ((1000 : Int) < (v : Int)) = true := decide_eq_true (by omega)
        clear h1 hv hx
        go_wp2
        go_ret
        subst hg
        exact ⟨rfl, rfl⟩
      · have d1 : decide ((1000 : Int) < (v : Int)) = false := decide_eq_false (by omega)
        by_cases h2 : 1000 < m + v
        · rw [if_pos (.inr h2)] at hg
          have d2 : decide ((1000 : Int) < (m : Int) + (v : Int)) = true := decide_eq_true (by omega)
          clear h1 h2 hv hx
          go_wp2
          go_ret
          subst hg
          exact ⟨rfl, rfl⟩
        · rw [if_neg (by omega)] at hg
          have d2 : decide ((1000 : Int) < (m : Int) + (v : Int)) = false := decide_eq_false (by omega)
          have HG := Lib.hid hg
          clear h1 hv hx hg
          go_wp2
          go_roundw
          case rel => exact ⟨k + 1, m + v, by omega, by go_num, by rw [Int.natCast_add], by omega, HG.out, trivial⟩
          case measure => simp [intOf]; omega
    · have hkn : k = l.length := by rw [← HNN.out]; omega
      rw [hkn, List.drop_length] at hg
      have hg2 : (m : Int) = R := hg
      have HG := Lib.hid hg2
      clear hg hg2 hkn
      go_wp2
      go_ret
      have e := HG.out
      subst e
      exact ⟨rfl, rfl⟩
/-- Has one many labels? -/
def muchZ (l : List I) : Bool := l.any fun i => decide (50 < i.l.length)
theorem much_drop {l : List I} {k : Nat} {i : I} (h : l[k]? = some i) : muchZ (l.drop k) = (decide (50 < i.l.length) || muchZ (l.drop (k + 1))) := by
  obtain ⟨h1, h2⟩ := List.getElem?_eq_some_iff.1 h
  rw [List.drop_eq_getElem_cons h1, h2]
  rfl
set_option maxHeartbeats 2000000 in
theorem rmuch_any {w : World} {x : Bd} {L : Option Addr} {l : Nat} {B : Option Addr} {c : Nat} (hi : Ins w B x.b) (hn : (x.b.length : Int) ≤ 9223372036854775807) :
    Calls Tryz.prog 8 #[bdV x L l B c] w (BoolPost (muchZ x.b) w) := by
  have H0 := Lib.hid (bxBd_start w x L l B c)
  have HI := Lib.hid (hi.below (below_box w (.cells (bdC x L l B c) 28)))
  obtain ⟨R, hR⟩ : ∃ R, R = muchZ x.b := ⟨_, rfl⟩
  have HR := Lib.hid hR
  rw [← hR]
  clear hi hR
  go_enter Tryz.func8, Tryz.ntmps8
  go_wp2
  obtain ⟨c0, c1⟩ := H0.out.2
  generalize w.alloc (.cells (bdC x L l B c) 28) = W at *
  go_loopw [3] (fun i wr => ∃ (k : Nat), k ≤ x.b.length ∧ i = .int .i64 k ∧ muchZ (x.b.drop k) = R ∧ wr = W) (fun i _ => x.b.length - (intOf i).toNat)
  case atStart => exact ⟨0, Nat.zero_le _, rfl, HR.out.symm, rfl⟩
  case round =>
    obtain ⟨k, hk, rfl, hg, rfl⟩ := hrel
    by_cases hlt : k < x.b.length
    · obtain ⟨i, hx⟩ : ∃ i, x.b[k]? = some i := ⟨_, List.getElem?_eq_getElem hlt⟩
      obtain ⟨b, off, B1, d, rfl, hbl, ⟨k0, k1, k2, k3⟩, _⟩ := HI.out k i hx
      rw [much_drop hx] at hg
      by_cases h1 : 50 < i.l.length
      · rw [decide_eq_true h1, Bool.true_or] at hg
        have d1 : decide ((50 : Int) < (i.l.length : Int)) = true := decide_eq_true (by omega)
        clear h1 hx
        subst hg
        go_wp2
        go_ret
        exact ⟨rfl, bxBd_bel H0.out⟩
      · rw [decide_eq_false h1, Bool.false_or] at hg
        have d1 : decide ((50 : Int) < (i.l.length : Int)) = false := decide_eq_false (by omega)
        have HG := Lib.hid hg
        clear h1 hx hg
        go_wp2
        go_roundw
        case rel => exact ⟨k + 1, by omega, by go_num, HG.out, trivial⟩
        case measure => simp [intOf]; omega
    · have hkn : k = x.b.length := by omega
      rw [hkn, List.drop_length] at hg
      have hg2 : false = R := hg
      clear hg hkn
      subst hg2
      go_wp2
      go_ret
      exact ⟨rfl, bxBd_bel H0.out⟩
end Go.Proofs.YtebgmfjgapmpfabGreatDoor

/- The reference's Walk and Shape. -/
namespace Go.Proofs.YtebgmfjgapmpfabGreatDoor
open Go.RowKit
set_option linter.unusedVariables false
set_option maxRecDepth 100000

def opc (c : UInt8) : UInt8 := if c = 4 then 105 else if c = 5 then 101 else 98
def opens (n : Nat) : Bool := decide (n = 2 ∨ n = 3 ∨ n = 4)
theorem opens_all : ∀ n, n < 256 → (immR n == 1) = opens n := by decide +kernel
theorem opens_iff {op : UInt8} : immR op.toNat = 1 ↔ (op.toNat = 2 ∨ op.toNat = 3 ∨ op.toNat = 4) := by
  have := opens_all op.toNat op.toNat_lt
  constructor
  · intro h
    have h2 : (immR op.toNat == 1) = true := by simpa using h
    rw [h2] at this
    unfold opens at this
    simpa using this.symm
  · intro h
    have h2 : opens op.toNat = true := by unfold opens; simpa using h
    rw [h2] at this
    simpa using this
/-- Only what opens a block, or an else, stands there. -/
def Clean (st : List UInt8) : Prop := ∀ c ∈ st, c.toNat = 2 ∨ c.toNat = 3 ∨ c.toNat = 4 ∨ c.toNat = 5
theorem clean_add {st st' : List UInt8} {op : UInt8} {en : Bool} (h : Clean st) (ha : addZ st op = some (st', en)) : Clean st' := by
  unfold addZ at ha
  by_cases h1 : immR op.toNat = 1
  · rw [if_pos h1] at ha
    injection ha with ha; injection ha with ha1 ha2
    subst ha1
    intro c hc
    rcases List.mem_append.1 hc with hc | hc
    · exact h c hc
    · rw [List.mem_singleton] at hc
      subst hc
      have := opens_iff.1 h1
      omega
  · rw [if_neg h1] at ha
    by_cases h5 : op = 5
    · rw [if_pos h5] at ha
      by_cases h4 : st.getLast? = some 4
      · rw [if_pos h4] at ha
        injection ha with ha; injection ha with ha1 ha2
        subst ha1
        intro c hc
        rcases List.mem_append.1 hc with hc | hc
        · exact h c ((List.dropLast_sublist st).subset hc)
        · rw [List.mem_singleton] at hc
          subst hc
          exact .inr (.inr (.inr rfl))
      · rw [if_neg h4] at ha; cases ha
    · rw [if_neg h5] at ha
      by_cases h11 : op = 11
      · rw [if_pos h11] at ha
        by_cases h0 : st = []
        · rw [if_pos h0] at ha
          injection ha with ha; injection ha with ha1 ha2
          subst ha1
          exact h
        · rw [if_neg h0] at ha
          injection ha with ha; injection ha with ha1 ha2
          subst ha1
          exact fun c hc => h c ((List.dropLast_sublist st).subset hc)
      · rw [if_neg h11] at ha
        injection ha with ha; injection ha with ha1 ha2
        subst ha1
        exact h
theorem op_is {op : UInt8} {n : Nat} (h : op.toNat = n) (hn : n < 256) : op = UInt8.ofNat n := by
  apply u8_ext
  rw [h, UInt8.toNat_ofNat']
  omega
theorem last_map {st : List UInt8} {x : UInt8} (h : st.getLast? = some x) : (st.map opc)[st.length - 1]? = some (opc x) := by
  rw [List.getElem?_map, ← List.getLast?_eq_getElem?, h]
  rfl
theorem opc_i {st : List UInt8} {x : UInt8} (hc : Clean st) (h : st.getLast? = some x) : (((opc x).toNat : Int) != 105) = decide (x ≠ 4) := by
  have hx : x ∈ st := List.mem_of_getLast? h
  have := hc x hx
  unfold opc
  by_cases h4 : x = 4
  · subst h4; rfl
  · rw [if_neg h4]
    by_cases h5 : x = 5
    · subst h5; rfl
    · rw [if_neg h5]
      simp [h4]
theorem map_dropLast (st : List UInt8) : (st.map opc).take (st.length - 1) = st.dropLast.map opc := by
  rw [← List.map_take, List.dropLast_eq_take]
/-- What Walk tells: is it a body? -/
def WalkPost (l : List I) (w : World) (e : Ending) (w' : World) : Prop :=
  ∃ m x : Int, e = .returned (.tuple #[.int .i64 m, .int .i64 x]) ∧ (shapeGo [] (opsOf l) = true ↔ (m ≠ 0 ∧ m = l.length)) ∧ Below w.heap.size w w'
set_option maxHeartbeats 3000000 in
theorem walk_any {w : World} {A : Option Addr} {c : Nat} {l : List I} (hl : Ins w A l) (hn : l.length ≤ 20000) :
    Calls Tryz.prog 96 #[.slice A l.length c] w (WalkPost l w) := by
  have HL := Lib.hid hl
  obtain ⟨n, hnn⟩ : ∃ n, n = l.length := ⟨_, rfl⟩
  have HNN := Lib.hid hnn
  rw [← hnn] at hn ⊢
  clear hl hnn
  go_enter Tryz.func96, Tryz.ntmps96
  go_wp2
  go_loopw [4, 5] (fun s i wr => ∃ (k : Nat) (st : List UInt8), k ≤ n ∧ i = .int .i64 k ∧ s = .string (S (st.map opc)) ∧ st.length ≤ k ∧ Clean st ∧ Stand l k st false ∧ Below w.heap.size w wr) (fun _ i _ => n - (intOf i).toNat)
  case atStart => exact ⟨0, [], Nat.zero_le _, rfl, rfl, Nat.le_refl _, (fun c h => by cases h), rfl, Below.refl _ _⟩
  case round =>
    obtain ⟨k, st, hk, rfl, rfl, hsl, hcl, hst, hb⟩ := hrel
    have HB := Lib.hid hb
    by_cases hlt : k < n
    · obtain ⟨i, hi⟩ : ∃ i, l[k]? = some i := ⟨_, List.getElem?_eq_getElem (by rw [← HNN.out]; exact hlt)⟩
      obtain ⟨b, off, B, cc, rfl, hbl, ⟨k0, _, _, _⟩, _⟩ := HL.out k i hi
      have m0 := (hb.cell (p := ⟨b, off + k * 4, none⟩) hbl).trans k0
      have hstep := hst.step hi
      obtain ⟨t, ht⟩ : ∃ t, t = st.map opc := ⟨_, rfl⟩
      have htl : t.length = st.length := by rw [ht, List.length_map]
      have hsz := S_size t
      rw [← ht]
      have HTT := Lib.hid ht
      by_cases h23 : i.op.toNat = 2 ∨ i.op.toNat = 3
      · have ha : addZ st i.op = some (st ++ [i.op], false) := by unfold addZ; rw [if_pos (opens_iff.2 (by omega))]
        rw [ha] at hstep
        have hc2 := clean_add hcl ha
        have HS := Lib.hid hstep
        have HC := Lib.hid hc2
        have HO : Hid (S t ++ { data := #[98] } = S ((st ++ [i.op]).map opc)) := by
          show S t ++ S [98] = _
          rw [S_append, List.map_append, HTT.out]
          congr 2
          unfold opc
          rw [List.map_cons, List.map_nil, if_neg (by intro e; rw [e] at h23; revert h23; decide), if_neg (by intro e; rw [e] at h23; revert h23; decide)]
        have q : (S t).size + 1 ≤ 9223372036854775807 := by omega
        clear hst hb k0 hi hstep ha hc2 hcl ht
        rcases h23 with h2 | h2
        all_goals
          rw [h2] at m0
          go_wp2
          go_roundw
          case rel => exact ⟨k + 1, st ++ [i.op], by omega, by go_num, by rw [HO.out], by simp; omega, HC.out, HS.out, HB.out⟩
          case measure => simp [intOf]; omega
      · by_cases h4 : i.op.toNat = 4
        · have ha : addZ st i.op = some (st ++ [i.op], false) := by unfold addZ; rw [if_pos (opens_iff.2 (by omega))]
          rw [ha] at hstep
          have hc2 := clean_add hcl ha
          have HS := Lib.hid hstep
          have HC := Lib.hid hc2
          have HO : Hid (S t ++ { data := #[105] } = S ((st ++ [i.op]).map opc)) := by
            show S t ++ S [105] = _
            rw [S_append, List.map_append, HTT.out, op_is (n := 4) h4 (by decide)]
            rfl
          have q : (S t).size + 1 ≤ 9223372036854775807 := by omega
          clear hst hb k0 hi hstep ha hc2 hcl ht
          rw [h4] at m0
          go_wp2
          go_roundw
          case rel => exact ⟨k + 1, st ++ [i.op], by omega, by go_num, by rw [HO.out], by simp; omega, HC.out, HS.out, HB.out⟩
          case measure => simp [intOf]; omega
        · have d2 : ((i.op.toNat : Int) == 2) = false := by simp; omega
          have d3 : ((i.op.toNat : Int) == 3) = false := by simp; omega
          have d4 : ((i.op.toNat : Int) == 4) = false := by simp; omega
          have himm : ¬ immR i.op.toNat = 1 := fun e => by have := opens_iff.1 e; omega
          by_cases h5 : i.op.toNat = 5
          · have e5 : i.op = 5 := op_is (n := 5) h5 (by decide)
            rw [e5] at hstep himm
            by_cases h0 : st = []
            · have ha : addZ st 5 = none := by unfold addZ; rw [if_neg himm, if_pos rfl, h0, if_neg (by simp)]
              rw [ha] at hstep
              have HS := Lib.hid hstep
              have z0 : (S t).toList.isEmpty = true := by rw [S_toList, HTT.out, h0]; rfl
              clear hst hb k0 hi hstep ha hcl ht h0
              rw [h5] at m0
              go_wp2
              go_ret2
              exact ⟨0, k, rfl, by rw [HS.out]; simp, HB.out⟩
            · obtain ⟨x, hx⟩ : ∃ x, st.getLast? = some x := by cases h : st.getLast? with
                | none => exact absurd (List.getLast?_eq_none_iff.1 h) h0
                | some x => exact ⟨x, rfl⟩
              have z0 : (S t).toList.isEmpty = false := by
                rw [S_toList, HTT.out]
                cases st with
                | nil => exact absurd rfl h0
                | cons a r => rfl
              obtain ⟨u, hu⟩ : ∃ u, st.length = u + 1 := ⟨st.length - 1, by have := List.length_pos_iff.2 h0; omega⟩
              have hsu : (S t).size = u + 1 := by omega
              have hlu : u < (S t).size := by omega
              have hgl : t[u]? = some (opc x) := by have := last_map hx; rw [hu, Nat.add_sub_cancel] at this; rw [HTT.out]; exact this
              have hgx : (S t)[u]'hlu = opc x := by
                rw [S_get t u hlu]
                exact (List.getElem?_eq_some_iff.1 hgl).2
              have hcmp : ((((S t)[u]'hlu).toNat : Int) != 105) = decide (x ≠ 4) := by rw [hgx]; exact opc_i hcl hx
              have e1 : ((u + 1 : Nat) : Int) - 1 = u := by omega
              by_cases hx4 : x = 4
              · have hl4 : st.getLast? = some 4 := by rw [hx, hx4]
                have ha : addZ st 5 = some (st.dropLast ++ [5], false) := by unfold addZ; rw [if_neg himm, if_pos rfl, if_pos hl4]
                rw [ha] at hstep
                have hc2 := clean_add hcl ha
                have HS := Lib.hid hstep
                have HC := Lib.hid hc2
                have hcm : ((((S t)[u]'hlu).toNat : Int) != 105) = false := by rw [hcmp, hx4]; rfl
                have hsl2 : ∀ wx, (Instr.slice 9 (.string (S t)) none (some (.int .i64 (u : Int))) none).run Tryz.prog wx = .ok (.string (S (t.take u))) wx := fun wx => by
                  have := run_slice_string_h (P := Tryz.prog) wx 9 (S t) Tryz.underlying9 .i64 (u : Int) (by omega) (by omega)
                  rw [this, S_extract]
                  simp
                have htk : t.take u = st.dropLast.map opc := by rw [HTT.out, ← map_dropLast, hu, Nat.add_sub_cancel]
                obtain ⟨t2, ht2⟩ : ∃ t2, t2 = t.take u := ⟨_, rfl⟩
                rw [← ht2] at hsl2 htk
                have HTK := Lib.hid htk
                have hs2 := S_size t2
                have hl2 : t2.length ≤ 20000 := by rw [ht2, List.length_take]; omega
                have q : (S t2).size + 1 ≤ 9223372036854775807 := by omega
                have HO : Hid (S t2 ++ { data := #[101] } = S ((st.dropLast ++ [5]).map opc)) := by
                  show S t2 ++ S [101] = _
                  rw [S_append, List.map_append, HTK.out]
                  rfl
                have HLU := Lib.hid hu
                clear hst hb k0 hi hstep ha hc2 hcl ht ht2 htk hx hgl hgx hcmp hl4 h0 hx4
                rw [h5] at m0
                go_wp2
                go_roundw
                case rel => exact ⟨k + 1, st.dropLast ++ [5], by omega, by go_num, by rw [HO.out], by simp; have := HLU.out; omega, HC.out, HS.out, HB.out⟩
                case measure => simp [intOf]; omega
              · have ha : addZ st 5 = none := by unfold addZ; rw [if_neg himm, if_pos rfl, hx, if_neg (by simpa using hx4)]
                rw [ha] at hstep
                have HS := Lib.hid hstep
                have hcm : ((((S t)[u]'hlu).toNat : Int) != 105) = true := by rw [hcmp]; simpa using hx4
                clear hst hb k0 hi hstep ha hcl ht hx hgl hgx hcmp h0 hx4
                rw [h5] at m0
                go_wp2
                go_ret2
                exact ⟨0, k, rfl, by rw [HS.out]; simp, HB.out⟩
          · have d5 : ((i.op.toNat : Int) == 5) = false := by simp; omega
            have n5 : i.op ≠ 5 := fun e => h5 (by rw [e]; rfl)
            by_cases h11 : i.op.toNat = 11
            · have e11 : i.op = 11 := op_is (n := 11) h11 (by decide)
              rw [e11] at hstep himm
              by_cases h0 : st = []
              · have ha : addZ st 11 = some (st, true) := by rw [addZ_11, if_pos h0, if_pos h0]
                rw [ha] at hstep
                have z0 : (S t).toList.isEmpty = true := by rw [S_toList, HTT.out, h0]; rfl
                have HS : Hid (shapeGo [] (opsOf l) = true ↔ (((k : Int) + 1 ≠ 0) ∧ (k : Int) + 1 = n)) := by
                  have h : Stand l (k + 1) st true := hstep
                  unfold Stand at h
                  rw [if_pos rfl] at h
                  show _ ↔ _
                  rw [h, List.isEmpty_iff, List.drop_eq_nil_iff]
                  unfold opsOf
                  rw [List.length_map, ← HNN.out]
                  omega
                clear hst hb k0 hi hstep ha hcl ht h0
                rw [h11] at m0
                go_wp2
                go_ret2
                exact ⟨(k : Int) + 1, -1, rfl, by rw [← HNN.out]; exact HS.out, HB.out⟩
              · have ha : addZ st 11 = some (st.dropLast, false) := by rw [addZ_11, if_neg h0, if_neg h0]
                rw [ha] at hstep
                have hc2 := clean_add hcl ha
                have HS := Lib.hid hstep
                have HC := Lib.hid hc2
                have z0 : (S t).toList.isEmpty = false := by
                  rw [S_toList, HTT.out]
                  cases st with
                  | nil => exact absurd rfl h0
                  | cons a r => rfl
                obtain ⟨u, hu⟩ : ∃ u, st.length = u + 1 := ⟨st.length - 1, by have := List.length_pos_iff.2 h0; omega⟩
                have hsu : (S t).size = u + 1 := by omega
                have e1 : ((u + 1 : Nat) : Int) - 1 = u := by omega
                have hsl2 : ∀ wx, (Instr.slice 9 (.string (S t)) none (some (.int .i64 (u : Int))) none).run Tryz.prog wx = .ok (.string (S (t.take u))) wx := fun wx => by
                  have := run_slice_string_h (P := Tryz.prog) wx 9 (S t) Tryz.underlying9 .i64 (u : Int) (by omega) (by omega)
                  rw [this, S_extract]
                  simp
                have HTK := Lib.hid (show t.take u = st.dropLast.map opc by rw [HTT.out, ← map_dropLast, hu, Nat.add_sub_cancel])
                have HLU := Lib.hid hu
                clear hst hb k0 hi hstep ha hc2 hcl ht h0
                rw [h11] at m0
                go_wp2
                go_roundw
                case rel => exact ⟨k + 1, st.dropLast, by omega, by go_num, by rw [HTK.out], by simp; have := HLU.out; omega, HC.out, HS.out, HB.out⟩
                case measure => simp [intOf]; omega
            · have d11 : ((i.op.toNat : Int) == 11) = false := by simp; omega
              have n11 : i.op ≠ 11 := fun e => h11 (by rw [e]; rfl)
              have ha : addZ st i.op = some (st, false) := by unfold addZ; rw [if_neg himm, if_neg n5, if_neg n11]
              rw [ha] at hstep
              have HS := Lib.hid hstep
              have HC := Lib.hid hcl
              clear hst hb k0 hi hstep ha hcl
              rw [ht]
              go_wp2
              go_roundw
              case rel => exact ⟨k + 1, st, by omega, by go_num, rfl, by omega, HC.out, HS.out, HB.out⟩
              case measure => simp [intOf]; omega
    · obtain rfl : k = n := by omega
      have HS : Hid (shapeGo [] (opsOf l) = false) := by
        have h := hst
        unfold Stand at h
        rw [if_neg (by simp), List.drop_eq_nil_of_le (by unfold opsOf; rw [List.length_map, HNN.out]; exact Nat.le_refl _)] at h
        show _ = _
        rw [h]
        unfold shapeGo
        rfl
      clear hst hb hcl
      go_wp2
      go_ret2
      exact ⟨0, -1, rfl, by rw [HS.out]; simp, HB.out⟩
theorem refShape_any {w : World} {A : Option Addr} {c : Nat} {l : List I} (hl : Ins w A l) (hn : l.length ≤ 20000) :
    Calls Tryz.prog 59 #[.slice A l.length c] w (IntPost (shapeZ l) w) := by
  have HW := Lib.hid (walk_any (c := c) hl hn)
  have g0 : decide (20000 < (l.length : Int)) = false := decide_eq_false (by omega)
  by_cases hs : shapeGo [] (opsOf l) = true
  · have HE := Lib.hid (show shapeZ l = 0 by unfold shapeZ; rw [if_pos hs])
    have HW2 := Lib.hid (show Calls Tryz.prog 96 #[.slice A l.length c] w fun e w' => ∃ m x : Int, e = .returned (.tuple #[.int .i64 m, .int .i64 x]) ∧ (m ≠ 0 ∧ m = l.length) ∧ Below w.heap.size w w' from HW.out.mono fun e w' ⟨m, x, h1, h2, h3⟩ => ⟨m, x, h1, h2.1 hs, h3⟩)
    clear hs hl HW
    go_enter Tryz.func59, Tryz.ntmps59
    go_wp2_with (go_at_call 96; go_must ((with_reducible refine HW2.out.mono ?_); intro e w1 hq; obtain ⟨m, x, rfl, ⟨hm0, hm1⟩, hb⟩ := hq; have z1 : (m == 0) = false := (by simpa using hm0); have z2 : (m != (l.length : Int)) = false := (by simpa using hm1); have HB := Lib.hid hb; clear hb hm0 hm1))
    go_ret
    exact ret_below HE.out.symm HB.out
  · have HE := Lib.hid (show shapeZ l = 30 by unfold shapeZ; rw [if_neg hs])
    have HW2 := Lib.hid (show Calls Tryz.prog 96 #[.slice A l.length c] w fun e w' => ∃ m x : Int, e = .returned (.tuple #[.int .i64 m, .int .i64 x]) ∧ (m = 0 ∨ m ≠ l.length) ∧ Below w.heap.size w w' from HW.out.mono fun e w' ⟨m, x, h1, h2, h3⟩ => ⟨m, x, h1, by
      by_cases g : m = 0
      · exact .inl g
      · exact .inr (fun g2 => hs (h2.2 ⟨g, g2⟩)), h3⟩)
    clear hs hl HW
    go_enter Tryz.func59, Tryz.ntmps59
    go_wp2_with (go_at_call 96; go_must ((with_reducible refine HW2.out.mono ?_); intro e w1 hq; obtain ⟨m, x, rfl, hm, hb⟩ := hq; have HB := Lib.hid hb; clear hb))
    all_goals first
      | (go_ret; exact ret_below HE.out.symm HB.out)
      | (go_wp2; go_ret; exact ret_below HE.out.symm HB.out)
      | (exfalso; rename_i h1 h2; have h3 : m = l.length := (by simpa using h2.2); omega)
end Go.Proofs.YtebgmfjgapmpfabGreatDoor
