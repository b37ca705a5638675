/- slices.Equal of labels; instr.Same; the reference's Same. -/
import Derived.Test.YtebgmfjgapmpfaaGreatDoorQa06
import Derived.RegionTactic
import Derived.Test.YtebgmfjgapmpfaaGreatDoorQb01
import Derived.Test.YtebgmfjgapmpfaaGreatDoorQa01
namespace Go.Proofs.YtebgmfjgapmpfaaGreatDoor
open Go.RowKit
set_option linter.unusedVariables false
set_option maxRecDepth 100000

def LiesL (w : World) (A : Option Addr) (l : List Int) : Prop := Lies w w.heap.size A (cells32 l)
theorem LiesL.below {w w' : World} {A : Option Addr} {l : List Int} (h : LiesL w A l) (hb : Below w.heap.size w w') : LiesL w' A l := (Lies.below h hb (Nat.le_refl _)).more hb.size
theorem LiesL.at {w : World} {A : Option Addr} {l : List Int} (h : LiesL w A l) {i : Nat} {d : Int} (hd : l[i]? = some d) : ∃ b off, A = some ⟨b, off, none⟩ ∧ b < w.heap.size ∧ w.cell? ⟨b, off + i, none⟩ = some (.int .u32 d) := by
  obtain ⟨b, off, e, hb, hc⟩ := h i _ (cells32_get hd)
  exact ⟨b, off, e, hb, hc⟩
/-- The first k of two lists are the same. -/
def Eqs (a b : List Int) (k : Nat) : Prop := ∀ j, j < k → a[j]? = b[j]?
theorem Eqs.all {a b : List Int} {n : Nat} (h : Eqs a b n) (ha : a.length = n) (hb : b.length = n) : a = b := by
  apply List.ext_getElem?
  intro j
  rcases Nat.lt_or_ge j n with g | g
  · exact h j g
  · rw [List.getElem?_eq_none (by omega), List.getElem?_eq_none (by omega)]
def BoolPost (p : Bool) (w : World) (e : Ending) (w' : World) : Prop := e = .returned (.bool p) ∧ Below w.heap.size w w'
/-- Are two instructions the same? -/
def sameZ (i k : I) : Bool := decide (i.op = k.op) && decide (i.a = k.a) && decide (i.b = k.b) && decide (i.l = k.l)
theorem below_twoI (w : World) (i k : I) (A B : Option Addr) (c d : Nat) : Below w.heap.size w ((w.alloc (.cells (insC i A c) 44)).alloc (.cells (insC k B d) 44)) := (below_box w _).alloc (by simp) _
theorem same_no {i k : I} {w W : World} (h : ¬ (i.op = k.op ∧ i.a = k.a ∧ i.b = k.b ∧ i.l = k.l)) (hb : Below w.heap.size w W) : BoolPost (sameZ i k) w (.returned (.bool false)) W := by
  refine ⟨ret_bool ?_, hb⟩
  unfold sameZ
  by_cases h1 : i.op = k.op
  · by_cases h2 : i.a = k.a
    · by_cases h3 : i.b = k.b
      · have h4 : ¬ i.l = k.l := fun e => h ⟨h1, h2, h3, e⟩
        simp [h4]
      · simp [h3]
    · simp [h2]
  · simp [h1]
theorem op_ne {a b : UInt8} (h : a ≠ b) : ((a.toNat : Int) == b.toNat) = false := by
  simp
  intro e
  exact h (UInt8.toNat_inj.1 (by omega))
theorem op_eq (a : UInt8) : ((a.toNat : Int) == a.toNat) = true := by simp
set_option maxHeartbeats 2000000 in
theorem refSame_any {w : World} {A B : Option Addr} {c d : Nat} {i k : I} (ha : LiesL w A i.l) (hb : LiesL w B k.l) (na : i.l.length ≤ 100000) (nb : k.l.length ≤ 100000) :
    Calls Tryz.prog 52 #[insV i A c, insV k B d] w (BoolPost (sameZ i k) w) := by
  have HB2 := Lib.hid (below_twoI w i k A B c d)
  have HA := Lib.hid (ha.below HB2.out)
  have HB := Lib.hid (hb.below HB2.out)
  clear ha hb
  by_cases h1 : i.op = k.op
  · have d1 : ((i.op.toNat : Int) != k.op.toNat) = false := by rw [h1]; simp
    by_cases h2 : i.a = k.a
    · have d2 : (i.a != k.a) = false := by simpa using h2
      by_cases h3 : i.b = k.b
      · have d3 : (i.b != k.b) = false := by simpa using h3
        have HE := Lib.hid (show sameZ i k = decide (i.l = k.l) by unfold sameZ; simp [h1, h2, h3])
        by_cases h4 : i.l.length = k.l.length
        · have d4 : ((i.l.length : Int) != k.l.length) = false := by rw [h4]; simp
          have HL := Lib.hid h4
          clear h1 h2 h3 h4
          go_enter Tryz.func52, Tryz.ntmps52
          go_wp2
          generalize hW : ((w.alloc (.cells (insC i A c) 44)).alloc (.cells (insC k B d) 44)) = W at *
          have x3 : W.cell? ⟨w.heap.size, 3, none⟩ = some (.slice A i.l.length c) := by rw [← hW]; exact ((Whole.made w 44 (insC i A c)).alloc _).cell 3
          have y3 : W.cell? ⟨w.heap.size + 1, 3, none⟩ = some (.slice B k.l.length d) := by
            rw [← hW]
            have := Whole.made (w.alloc (.cells (insC i A c) 44)) 44 (insC k B d)
            rw [size_box] at this
            exact this.cell 3
          clear hW
          go_loopw [5] (fun s wr => ∃ j q : Nat, j ≤ i.l.length ∧ s = .int .i64 j ∧ wr = W.drewN q ∧ Eqs i.l k.l j) (fun s _ => i.l.length - (intOf s).toNat)
          case atStart => exact ⟨0, 0, Nat.zero_le _, rfl, rfl, fun j hj => absurd hj (Nat.not_lt_zero _)⟩
          case round =>
            obtain ⟨j, q, hj, rfl, rfl, heq⟩ := hrel
            by_cases hlt : j < i.l.length
            · obtain ⟨x, hx⟩ : ∃ x, i.l[j]? = some x := ⟨_, List.getElem?_eq_getElem hlt⟩
              obtain ⟨y, hy⟩ : ∃ y, k.l[j]? = some y := ⟨_, List.getElem?_eq_getElem (by rw [← HL.out]; exact hlt)⟩
              obtain ⟨b1, o1, rfl, _, g1⟩ := HA.out.at hx
              obtain ⟨b2, o2, rfl, _, g2⟩ := HB.out.at hy
              have hlt2 : j < k.l.length := by rw [← HL.out]; exact hlt
              have HE2 := Lib.hid heq
              have HX := Lib.hid hx
              have HY := Lib.hid hy
              clear heq hx hy
              by_cases hxy : x = y
              · have HXY := Lib.hid hxy
                have hc : (x != y) = false := by simpa using hxy
                clear hxy
                go_wp2_with fail
                go_region
                go_wp2
                go_roundw
                case measure => simp [intOf]; omega
                case rel =>
                  refine ⟨j + 1, q + 1, by omega, by go_num, rfl, fun u hu => ?_⟩
                  by_cases e : u = j
                  · subst e
                    rw [HX.out, HY.out, HXY.out]
                  · exact HE2.out u (by omega)
              · have HXY := Lib.hid hxy
                have hc : (x != y) = true := by simpa using hxy
                clear hxy
                go_wp2_with fail
                go_region
                go_wp2
                go_ret
                refine ⟨ret_bool ?_, below_drewN HB2.out _⟩
                have : ¬ i.l = k.l := fun e => HXY.out (by have h1 := HX.out; have h2 := HY.out; rw [e, h2] at h1; injection h1 with h1; exact h1.symm)
                rw [HE.out, decide_eq_false this]
            · have hjj : j = i.l.length := by omega
              subst hjj
              have hab : i.l = k.l := heq.all rfl HL.out.symm
              clear heq
              go_wp2
              go_ret
              exact ⟨ret_bool (by rw [HE.out, decide_eq_true hab]), below_drewN HB2.out _⟩
        · have d4 : ((i.l.length : Int) != k.l.length) = true := by simp; omega
          have HNO := Lib.hid (fun W hb => same_no (i := i) (k := k) (w := w) (W := W) (fun h => h4 (by rw [h.2.2.2])) hb)
          clear h1 h2 h3 h4
          go_enter Tryz.func52, Tryz.ntmps52
          go_wp2
          go_ret
          exact HNO.out _ HB2.out
      · have d3 : (i.b != k.b) = true := by simpa using h3
        have HNO := Lib.hid (fun W hb => same_no (i := i) (k := k) (w := w) (W := W) (fun h => h3 h.2.2.1) hb)
        clear h1 h2 h3
        go_enter Tryz.func52, Tryz.ntmps52
        go_wp2
        go_ret
        exact HNO.out _ HB2.out
    · have d2 : (i.a != k.a) = true := by simpa using h2
      have HNO := Lib.hid (fun W hb => same_no (i := i) (k := k) (w := w) (W := W) (fun h => h2 h.2.1) hb)
      clear h1 h2
      go_enter Tryz.func52, Tryz.ntmps52
      go_wp2
      go_ret
      exact HNO.out _ HB2.out
  · have d1 : ((i.op.toNat : Int) != k.op.toNat) = true := by have := op_ne h1; simp at this ⊢; exact this
    have HNO := Lib.hid (fun W hb => same_no (i := i) (k := k) (w := w) (W := W) (fun h => h1 h.1) hb)
    clear h1
    go_enter Tryz.func52, Tryz.ntmps52
    go_wp2
    go_ret
    exact HNO.out _ HB2.out
end Go.Proofs.YtebgmfjgapmpfaaGreatDoor

/- A list of instructions that lies somewhere; Shape, the reference's Walk and Shape. -/
namespace Go.Proofs.YtebgmfjgapmpfaaGreatDoor
open Go.RowKit
set_option linter.unusedVariables false
set_option maxRecDepth 100000

/-- The instructions lie at A, one behind the other, each with its labels. -/
def Ins (w : World) (A : Option Addr) (l : List I) : Prop :=
  ∀ j i, l[j]? = some i → ∃ b off B c, A = some ⟨b, off, none⟩ ∧ b < w.heap.size ∧ (w.cell? ⟨b, off + j * 4, none⟩ = some (.int .u8 i.op.toNat) ∧ w.cell? ⟨b, off + j * 4 + 1, none⟩ = some (.int .u64 i.a) ∧
    w.cell? ⟨b, off + j * 4 + 2, none⟩ = some (.int .u64 i.b) ∧ w.cell? ⟨b, off + j * 4 + 3, none⟩ = some (.slice B i.l.length c)) ∧ LiesL w B i.l
theorem Ins.below {w w' : World} {A : Option Addr} {l : List I} (h : Ins w A l) (hb : Below w.heap.size w w') : Ins w' A l := fun j i hi => by
  obtain ⟨b, off, B, c, e, h1, ⟨k0, k1, k2, k3⟩, hl⟩ := h j i hi
  exact ⟨b, off, B, c, e, Nat.lt_of_lt_of_le h1 hb.size, ⟨(hb.cell (p := ⟨b, _, none⟩) h1).trans k0, (hb.cell (p := ⟨b, _, none⟩) h1).trans k1, (hb.cell (p := ⟨b, _, none⟩) h1).trans k2, (hb.cell (p := ⟨b, _, none⟩) h1).trans k3⟩, hl.below hb⟩
def opsOf (l : List I) : List UInt8 := l.map (·.op)
def shapeZ (l : List I) : Int := if shapeGo [] (opsOf l) = true then 0 else 30
theorem ops_drop {l : List I} {k : Nat} {i : I} (h : l[k]? = some i) : (opsOf l).drop k = i.op :: (opsOf l).drop (k + 1) := by
  unfold opsOf
  have hk := (List.getElem?_eq_some_iff.1 h)
  obtain ⟨h1, h2⟩ := hk
  rw [List.drop_eq_getElem_cons (by simpa using h1)]
  simp [h2]
/-- The total, seen from where the walk stands. -/
def Stand (l : List I) (k : Nat) (st : List UInt8) (en : Bool) : Prop := shapeGo [] (opsOf l) = (if en then ((opsOf l).drop k).isEmpty else shapeGo st ((opsOf l).drop k))
theorem Stand.step {l : List I} {k : Nat} {st : List UInt8} {i : I} (h : Stand l k st false) (hi : l[k]? = some i) : match addZ st i.op with
    | none => shapeGo [] (opsOf l) = false
    | some (st', en) => Stand l (k + 1) st' en := by
  unfold Stand at h
  rw [if_neg (by simp), ops_drop hi, shape_add] at h
  cases ha : addZ st i.op with
  | none => rw [ha] at h; exact h
  | some q =>
    obtain ⟨st', en⟩ := q
    rw [ha] at h
    cases en
    · exact h
    · exact h
theorem addZ_len {st st' : List UInt8} {op : UInt8} {en : Bool} (h : addZ st op = some (st', en)) : st'.length ≤ st.length + 1 := by
  unfold addZ at h
  repeat' split at h
  all_goals first | (injection h with h; injection h with h1 h2; subst h1; simp; omega) | (injection h with h; injection h with h1 h2; subst h1; simp) | cases h
/-- nest at block nb: its two cells, its row. -/
def Nest (w : World) (nb base : Nat) (st : List UInt8) (en : Bool) : Prop := ∃ v, Whole w nb 141 #[v, .bool en] ∧ Row w base v st
theorem Moved.below {nb base : Nat} {v : Value} {st st0 : List UInt8} {en : Bool} {W W' : World} (h : Moved nb base v st en W W') (hr : Row W base v st0) (hb : base ≤ W.heap.size) (hnb : base ≤ nb) : Below base W W' := by
  obtain ⟨v', Wm, h1, h2, h3, h4⟩ := h
  have b1 : Below base W Wm := Below.grown (Below.refl _ _) h3 hb (fun k hk => (World.ownsRow.lt hr k hk).1)
  exact Below.grown b1 h4 (Nat.le_trans hb h3.size) (fun k hk => by injection hk with hk; omega)
theorem Moved.nest {nb base : Nat} {v : Value} {st : List UInt8} {en : Bool} {W W' : World} (h : Moved nb base v st en W W') : Nest W' nb base st en := by
  obtain ⟨v', Wm, h1, h2, h3, h4⟩ := h
  exact ⟨v', h1, h2⟩
set_option maxHeartbeats 1000000 in
theorem shape_any {w : World} {A : Option Addr} {c : Nat} {l : List I} (hT : Tabs w) (hl : Ins w A l) (hn : l.length ≤ 20000) :
    Calls Tryz.prog 72 #[.slice A l.length c] w (IntPost (shapeZ l) w) := by
  have HL := Lib.hid hl
  have HT := Lib.hid hT
  have HN0 := Lib.hid (Whole.made w 141 #[.slice none 0 0, .bool false])
  obtain ⟨n, hnn⟩ : ∃ n, n = l.length := ⟨_, rfl⟩
  rw [← hnn] at hn ⊢
  have HNN := Lib.hid hnn
  have g0 : decide (20000 < (n : Int)) = false := decide_eq_false (by omega)
  clear hT hl hnn
  go_enter Tryz.func72, Tryz.ntmps72
  go_wp2
  go_loopw [11] (fun i wr => ∃ (k : Nat) (st : List UInt8) (en : Bool), k ≤ n ∧ i = .int .i64 k ∧ Nest wr w.heap.size w.heap.size st en ∧ st.length ≤ k ∧ Stand l k st en ∧ Below w.heap.size w wr ∧ w.heap.size < wr.heap.size) (fun i _ => n - (intOf i).toNat)
  case atStart => exact ⟨0, [], false, Nat.zero_le _, rfl, ⟨_, HN0.out, Row.nil _ _⟩, Nat.le_refl _, rfl, below_box w _, by simp⟩
  case round =>
    obtain ⟨k, st, en, hk, rfl, ⟨v, hnw, hrow⟩, hsl, hst, hb, hlt0⟩ := hrel
    by_cases hlt : k < n
    · obtain ⟨i, hi⟩ : ∃ i, l[k]? = some i := ⟨_, List.getElem?_eq_getElem (by rw [← HNN.out]; exact hlt)⟩
      obtain ⟨b, off, B, cc, rfl, hbl, ⟨k0, k1, k2, k3⟩, _⟩ := HL.out k i hi
      have m0 := (hb.cell (p := ⟨b, off + k * 4, none⟩) hbl).trans k0
      have m1 := (hb.cell (p := ⟨b, off + k * 4 + 1, none⟩) hbl).trans k1
      have m2 := (hb.cell (p := ⟨b, off + k * 4 + 2, none⟩) hbl).trans k2
      have m3 := (hb.cell (p := ⟨b, off + k * 4 + 3, none⟩) hbl).trans k3
      have HB := Lib.hid hb
      have HRW := Lib.hid (hrow.alloc (.cells (insC i B cc) 44))
      have HNW := Lib.hid (hnw.alloc (.cells (insC i B cc) 44))
      have HT2 := Lib.hid ((HT.out.below hb).below (below_box wr (.cells (insC i B cc) 44)))
      have hle : w.heap.size ≤ (wr.alloc (.cells (insC i B cc) 44)).heap.size := by rw [size_box]; omega
      cases en with
      | true =>
        have HS : Hid (shapeZ l = 30) := by
          unfold Stand at hst
          rw [if_pos rfl, ops_drop hi] at hst
          show shapeZ l = 30
          unfold shapeZ
          rw [hst, if_neg (by simp)]
        have HA := Lib.hid (add_ended HNW.out i.op)
        clear hnw hrow hst hb k0 k1 k2 k3 hi
        go_wp2_with (go_at_call 111; go_must ((with_reducible refine HA.out.mono ?_); rintro e w2 ⟨rfl, rfl⟩))
        go_ret
        exact ret_below HS.out.symm (HB.out.alloc (by omega) _)
      | false =>
        have hstep := hst.step hi
        cases ha : addZ st i.op with
        | none =>
          rw [ha] at hstep
          have HS : Hid (shapeZ l = 30) := by
            show shapeZ l = 30
            unfold shapeZ
            rw [hstep, if_neg (by simp)]
          have HA := Lib.hid (add_no HT2.out HNW.out HRW.out (by omega) ha)
          clear hnw hrow hst hb k0 k1 k2 k3 hi hstep ha
          go_wp2_with (go_at_call 111; go_must ((with_reducible refine HA.out.mono ?_); rintro e w2 ⟨rfl, hb2⟩; have HB2 := Lib.hid hb2; clear hb2))
          go_ret
          exact ret_below HS.out.symm ((HB.out.alloc (by omega) _).trans (HB2.out.mono hle))
        | some q =>
          obtain ⟨st', en'⟩ := q
          rw [ha] at hstep
          have HS := Lib.hid hstep
          have hl2 := addZ_len ha
          have HA := Lib.hid (add_ok HT2.out HNW.out HRW.out hle (by omega) ha)
          clear hnw hrow hst hb k0 k1 k2 k3 hi hstep ha
          go_wp2_with (go_at_call 111; go_must ((with_reducible refine HA.out.mono ?_); rintro e w2 ⟨rfl, hm⟩; have HM := Lib.hid hm; clear hm))
          go_roundw
          case rel =>
            have hbb := HM.out.below HRW.out hle (Nat.le_refl _)
            exact ⟨k + 1, st', en', by omega, by go_num, HM.out.nest, by omega, HS.out, (HB.out.alloc (by omega) _).trans hbb, by have := hbb.size; rw [size_box] at this; omega⟩
          case measure => simp [intOf]; omega
    · obtain rfl : k = n := by omega
      have c1 := hnw.cell 1
      simp only [List.getElem?_toArray, List.getElem?_cons_zero, List.getElem?_cons_succ] at c1
      have hd : (opsOf l).drop k = [] := List.drop_eq_nil_of_le (by unfold opsOf; rw [List.length_map, HNN.out]; exact Nat.le_refl _)
      unfold Stand at hst
      rw [hd] at hst
      have HB := Lib.hid hb
      cases en with
      | true =>
        have HS : Hid (shapeZ l = 0) := by show shapeZ l = 0; unfold shapeZ; rw [hst]; rfl
        clear hnw hrow hst hb hd
        go_wp2
        go_ret
        exact ret_below HS.out.symm HB.out
      | false =>
        have HS : Hid (shapeZ l = 30) := by
          show shapeZ l = 30
          unfold shapeZ
          rw [hst, if_neg (by unfold shapeGo; simp)]
        clear hnw hrow hst hb hd
        go_wp2
        go_ret
        exact ret_below HS.out.symm HB.out
end Go.Proofs.YtebgmfjgapmpfaaGreatDoor

/- Bodies as plain data: groups of locals, instructions; the reference's Locals, Much. -/
namespace Go.Proofs.YtebgmfjgapmpfaaGreatDoor
open Go.RowKit
set_option linter.unusedVariables false
set_option maxRecDepth 100000

/-- A group of locals; a body. -/
structure Lo where
  n : UInt32
  t : UInt8
structure Bd where
  ls : List Lo
  b : List I
abbrev bdC (x : Bd) (L : Option Addr) (l : Nat) (B : Option Addr) (c : Nat) : Array Value := #[.slice L x.ls.length l, .slice B x.b.length c]
abbrev bdV (x : Bd) (L : Option Addr) (l : Nat) (B : Option Addr) (c : Nat) : Value := .agg (bdC x L l B c)
abbrev bdZ : Array Value := #[.slice none 0 0, .slice none 0 0]
abbrev TwoB (W : World) (b : Nat) (x : Bd) (L : Option Addr) (l : Nat) (B : Option Addr) (c : Nat) : Prop :=
  W.cell? ⟨b, 0, none⟩ = some (.slice L x.ls.length l) ∧ W.cell? ⟨b, 1, none⟩ = some (.slice B x.b.length c)
theorem Whole.bd {w : World} {b : Nat} {t : TypeId} {x : Bd} {L : Option Addr} {l : Nat} {B : Option Addr} {c : Nat} (h : Whole w b t (bdC x L l B c)) : TwoB w b x L l B c := ⟨h.cell 0, h.cell 1⟩
/-- A block that holds a body, in a world grown from B: what is held of it. -/
abbrev BxBd (W0 : World) (b : Nat) (x : Bd) (L : Option Addr) (l : Nat) (B : Option Addr) (c : Nat) (W : World) : Prop := (Whole W b 70 (bdC x L l B c) ∧ Below W0.heap.size W0 W) ∧ TwoB W b x L l B c
section
variable {W0 W W' : World} {b : Nat} {x : Bd} {L : Option Addr} {l : Nat} {B : Option Addr} {c : Nat}
theorem bxBd_on (h : BxBd W0 b x L l B c W) (hb : Below W.heap.size W W') : BxBd W0 b x L l B c W' := ⟨⟨h.1.1.below hb, h.1.2.trans (hb.mono h.1.2.size)⟩, (h.1.1.below hb).bd⟩
theorem bxBd_start (w : World) (x : Bd) (L : Option Addr) (l : Nat) (B : Option Addr) (c : Nat) : BxBd w w.heap.size x L l B c (w.alloc (.cells (bdC x L l B c) 70)) := ⟨⟨Whole.made _ _ _, below_box _ _⟩, (Whole.made w 70 (bdC x L l B c)).bd⟩
theorem bxBd_bel (h : BxBd W0 b x L l B c W) : Below W0.heap.size W0 W := h.1.2
end
/-- The slice at A reads as these groups. -/
def Los (w : World) (A : Option Addr) (l : List Lo) : Prop :=
  ∀ j x, l[j]? = some x → ∃ b off, A = some ⟨b, off, none⟩ ∧ b < w.heap.size ∧ w.cell? ⟨b, off + j * 2, none⟩ = some (.int .u32 x.n.toNat) ∧ w.cell? ⟨b, off + j * 2 + 1, none⟩ = some (.int .u8 x.t.toNat)
theorem Los.below {w w' : World} {A : Option Addr} {l : List Lo} (h : Los w A l) (hb : Below w.heap.size w w') : Los w' A l := fun j x hx => by
  obtain ⟨b, off, e, h1, h2, h3⟩ := h j x hx
  exact ⟨b, off, e, Nat.lt_of_lt_of_le h1 hb.size, (hb.cell (p := ⟨b, _, none⟩) h1).trans h2, (hb.cell (p := ⟨b, _, none⟩) h1).trans h3⟩
/-- How many locals behind n; -1: too many. -/
def locGo : Nat → List Lo → Int
  | n, [] => n
  | n, x :: r => if 1000 < x.n.toNat ∨ 1000 < n + x.n.toNat then -1 else locGo (n + x.n.toNat) r
theorem lo_drop {l : List Lo} {k : Nat} {x : Lo} (h : l[k]? = some x) : l.drop k = x :: l.drop (k + 1) := by
  obtain ⟨h1, h2⟩ := List.getElem?_eq_some_iff.1 h
  rw [List.drop_eq_getElem_cons h1, h2]
theorem locGo_ge : ∀ (n : Nat) (l : List Lo), locGo n l < 0 → locGo n l = -1
  | n, [], h => by unfold locGo at h; omega
  | n, x :: r, h => by
    unfold locGo at h ⊢
    by_cases e : 1000 < x.n.toNat ∨ 1000 < n + x.n.toNat
    · rw [if_pos e]
    · rw [if_neg e] at h ⊢
      exact locGo_ge _ r h
/-- Their types, one for each local. -/
def typL (l : List Lo) : List UInt8 := l.flatMap fun x => List.replicate x.n.toNat x.t
theorem typL_len : ∀ (n : Nat) (l : List Lo), 0 ≤ locGo n l → locGo n l = n + (typL l).length ∧ (n ≤ 1000 → n + (typL l).length ≤ 1000)
  | n, [], h => by simp [locGo, typL]
  | n, x :: r, h => by
    unfold locGo at h ⊢
    by_cases e : 1000 < x.n.toNat ∨ 1000 < n + x.n.toNat
    · rw [if_pos e] at h; omega
    · rw [if_neg e] at h ⊢
      obtain ⟨h1, h2⟩ := typL_len _ r h
      have h3 : (typL (x :: r)).length = x.n.toNat + (typL r).length := by unfold typL; rw [List.flatMap_cons, List.length_append, List.length_replicate]
      rw [h3]
      refine ⟨by rw [h1]; omega, fun _ => by have := h2 (by omega); omega⟩
set_option maxHeartbeats 2000000 in
theorem rloc_any {w : World} {A : Option Addr} {c : Nat} {l : List Lo} (hl : Los w A l) (hn : (l.length : Int) ≤ 9223372036854775807) :
    Calls Tryz.prog 73 #[.slice A l.length c] w fun e w' => e = .returned (.int .i64 (locGo 0 l)) ∧ w = w' := by
  have HL := Lib.hid hl
  obtain ⟨R, hR⟩ : ∃ R, R = locGo 0 l := ⟨_, rfl⟩
  have HR := Lib.hid hR
  rw [← hR]
  obtain ⟨n, hnn⟩ : ∃ n, n = l.length := ⟨_, rfl⟩
  have HNN := Lib.hid hnn
  rw [← hnn] at hn ⊢
  clear hl hnn hR
  go_enter Tryz.func73, Tryz.ntmps73
  go_wp2
  go_loopw [3, 4] (fun s i wr => ∃ (k m : Nat), k ≤ n ∧ i = .int .i64 k ∧ s = .int .i64 m ∧ m ≤ 1000 ∧ locGo m (l.drop k) = R ∧ wr = w) (fun _ i _ => n - (intOf i).toNat)
  case atStart => exact ⟨0, 0, Nat.zero_le _, rfl, rfl, by omega, HR.out.symm, rfl⟩
  case round =>
    obtain ⟨k, m, hk, rfl, rfl, hm, hg, rfl⟩ := hrel
    by_cases hlt : k < n
    · obtain ⟨x, hx⟩ : ∃ x, l[k]? = some x := ⟨_, List.getElem?_eq_getElem (by rw [← HNN.out]; exact hlt)⟩
      obtain ⟨b, off, rfl, hbl, c0, c1⟩ := HL.out k x hx
      rw [lo_drop hx] at hg
      unfold locGo at hg
      have hxn := x.n.toNat_lt
      obtain ⟨v, hv⟩ : ∃ v, v = x.n.toNat := ⟨_, rfl⟩
      rw [← hv] at hg c0 hxn
      have wv : IntKind.i64.wrap (v : Int) = v := by rw [IntKind.wrap_i64]; omega
      have ws : IntKind.i64.wrap ((m : Int) + (v : Int)) = (m : Int) + (v : Int) := by rw [IntKind.wrap_i64]; omega
      by_cases h1 : 1000 < v
      · rw [if_pos (.inl h1)] at hg
        have d1 : decide ((1000 : Int) < (v : Int)) = true := decide_eq_true (by omega)
        clear h1 hv hx
        go_wp2
        go_ret
        subst hg
        exact ⟨rfl, rfl⟩
      · have d1 : decide ((1000 : Int) < (v : Int)) = false := decide_eq_false (by omega)
        by_cases h2 : 1000 < m + v
        · rw [if_pos (.inr h2)] at hg
          have d2 : decide ((1000 : Int) < (m : Int) + (v : Int)) = true := decide_eq_true (by omega)
          clear h1 h2 hv hx
          go_wp2
          go_ret
          subst hg
          exact ⟨rfl, rfl⟩
        · rw [if_neg (by omega)] at hg
          have d2 : decide ((1000 : Int) < (m : Int) + (v : Int)) = false := decide_eq_false (by omega)
          have HG := Lib.hid hg
          clear h1 hv hx hg
          go_wp2
          go_roundw
          case rel => exact ⟨k + 1, m + v, by omega, by go_num, by rw [Int.natCast_add], by omega, HG.out, trivial⟩
          case measure => simp [intOf]; omega
    · have hkn : k = l.length := by rw [← HNN.out]; omega
      rw [hkn, List.drop_length] at hg
      have hg2 : (m : Int) = R := hg
      have HG := Lib.hid hg2
      clear hg hg2 hkn
      go_wp2
      go_ret
      have e := HG.out
      subst e
      exact ⟨rfl, rfl⟩
/-- Has one many labels? -/
def muchZ (l : List I) : Bool := l.any fun i => decide (50 < i.l.length)
theorem much_drop {l : List I} {k : Nat} {i : I} (h : l[k]? = some i) : muchZ (l.drop k) = (decide (50 < i.l.length) || muchZ (l.drop (k + 1))) := by
  obtain ⟨h1, h2⟩ := List.getElem?_eq_some_iff.1 h
  rw [List.drop_eq_getElem_cons h1, h2]
  rfl
set_option maxHeartbeats 2000000 in
theorem rmuch_any {w : World} {x : Bd} {L : Option Addr} {l : Nat} {B : Option Addr} {c : Nat} (hi : Ins w B x.b) (hn : (x.b.length : Int) ≤ 9223372036854775807) :
    Calls Tryz.prog 32 #[bdV x L l B c] w (BoolPost (muchZ x.b) w) := by
  have H0 := Lib.hid (bxBd_start w x L l B c)
  have HI := Lib.hid (hi.below (below_box w (.cells (bdC x L l B c) 70)))
  obtain ⟨R, hR⟩ : ∃ R, R = muchZ x.b := ⟨_, rfl⟩
  have HR := Lib.hid hR
  rw [← hR]
  clear hi hR
  go_enter Tryz.func32, Tryz.ntmps32
  go_wp2
  obtain ⟨c0, c1⟩ := H0.out.2
  generalize w.alloc (.cells (bdC x L l B c) 70) = W at *
  go_loopw [3] (fun i wr => ∃ (k : Nat), k ≤ x.b.length ∧ i = .int .i64 k ∧ muchZ (x.b.drop k) = R ∧ wr = W) (fun i _ => x.b.length - (intOf i).toNat)
  case atStart => exact ⟨0, Nat.zero_le _, rfl, HR.out.symm, rfl⟩
  case round =>
    obtain ⟨k, hk, rfl, hg, rfl⟩ := hrel
    by_cases hlt : k < x.b.length
    · obtain ⟨i, hx⟩ : ∃ i, x.b[k]? = some i := ⟨_, List.getElem?_eq_getElem hlt⟩
      obtain ⟨b, off, B1, d, rfl, hbl, ⟨k0, k1, k2, k3⟩, _⟩ := HI.out k i hx
      rw [much_drop hx] at hg
      by_cases h1 : 50 < i.l.length
      · rw [decide_eq_true h1, Bool.true_or] at hg
        have d1 : decide ((50 : Int) < (i.l.length : Int)) = true := decide_eq_true (by omega)
        clear h1 hx
        subst hg
        go_wp2
        go_ret
        exact ⟨rfl, bxBd_bel H0.out⟩
      · rw [decide_eq_false h1, Bool.false_or] at hg
        have d1 : decide ((50 : Int) < (i.l.length : Int)) = false := decide_eq_false (by omega)
        have HG := Lib.hid hg
        clear h1 hx hg
        go_wp2
        go_roundw
        case rel => exact ⟨k + 1, by omega, by go_num, HG.out, trivial⟩
        case measure => simp [intOf]; omega
    · have hkn : k = x.b.length := by omega
      rw [hkn, List.drop_length] at hg
      have hg2 : false = R := hg
      clear hg hkn
      subst hg2
      go_wp2
      go_ret
      exact ⟨rfl, bxBd_bel H0.out⟩
end Go.Proofs.YtebgmfjgapmpfaaGreatDoor
