/- A list of instructions that lies somewhere; Shape, the reference's Walk and Shape. -/
import Derived.Test.YtebgmfjgapmpfabDoorQi14
import Derived.Test.YtebgmfjgapmpfabDoorQi11
import Derived.RegionTactic
import Derived.Test.YtebgmfjgapmpfabDoorQi10
import Derived.Test.YtebgmfjgapmpfabDoorQi01
import Derived.OwnWalk
import Derived.Test.YtebgmfjgapmpfabDoorQi08
import Derived.Deep.DeepMust
namespace Go.Proofs.YtebgmfjgapmpfabDoor
open Go.RowKit
set_option linter.unusedVariables false
set_option maxRecDepth 100000

/-- The instructions lie at A, one behind the other, each with its labels. -/
def Ins (w : World) (A : Option Addr) (l : List I) : Prop :=
  ∀ j i, l[j]? = some i → ∃ b off B c, A = some ⟨b, off, none⟩ ∧ b < w.heap.size ∧ (w.cell? ⟨b, off + j * 4, none⟩ = some (.int .u8 i.op.toNat) ∧ w.cell? ⟨b, off + j * 4 + 1, none⟩ = some (.int .u64 i.a) ∧
    w.cell? ⟨b, off + j * 4 + 2, none⟩ = some (.int .u64 i.b) ∧ w.cell? ⟨b, off + j * 4 + 3, none⟩ = some (.slice B i.l.length c)) ∧ LiesL w B i.l
theorem Ins.below {w w' : World} {A : Option Addr} {l : List I} (h : Ins w A l) (hb : Below w.heap.size w w') : Ins w' A l := fun j i hi => by
  obtain ⟨b, off, B, c, e, h1, ⟨k0, k1, k2, k3⟩, hl⟩ := h j i hi
  exact ⟨b, off, B, c, e, Nat.lt_of_lt_of_le h1 hb.size, ⟨(hb.cell (p := ⟨b, _, none⟩) h1).trans k0, (hb.cell (p := ⟨b, _, none⟩) h1).trans k1, (hb.cell (p := ⟨b, _, none⟩) h1).trans k2, (hb.cell (p := ⟨b, _, none⟩) h1).trans k3⟩, hl.below hb⟩
def opsOf (l : List I) : List UInt8 := l.map (·.op)
def shapeZ (l : List I) : Int := if shapeGo [] (opsOf l) = true then 0 else 30
theorem ops_drop {l : List I} {k : Nat} {i : I} (h : l[k]? = some i) : (opsOf l).drop k = i.op :: (opsOf l).drop (k + 1) := by
  unfold opsOf
  have hk := (List.getElem?_eq_some_iff.1 h)
  obtain ⟨h1, h2⟩ := hk
  rw [List.drop_eq_getElem_cons (by simpa using h1)]
  simp [h2]
/-- The total, seen from where the walk stands. -/
def Stand (l : List I) (k : Nat) (st : List UInt8) (en : Bool) : Prop := shapeGo [] (opsOf l) = (if en then ((opsOf l).drop k).isEmpty else shapeGo st ((opsOf l).drop k))
theorem Stand.step {l : List I} {k : Nat} {st : List UInt8} {i : I} (h : Stand l k st false) (hi : l[k]? = some i) : match addZ st i.op with
    | none => shapeGo [] (opsOf l) = false
    | some (st', en) => Stand l (k + 1) st' en := by
  unfold Stand at h
  rw [if_neg (by simp), ops_drop hi, shape_add] at h
  cases ha : addZ st i.op with
  | none => rw [ha] at h; exact h
  | some q =>
    obtain ⟨st', en⟩ := q
    rw [ha] at h
    cases en
    · exact h
    · exact h
theorem addZ_len {st st' : List UInt8} {op : UInt8} {en : Bool} (h : addZ st op = some (st', en)) : st'.length ≤ st.length + 1 := by
  unfold addZ at h
  repeat' split at h
  all_goals first | (injection h with h; injection h with h1 h2; subst h1; simp; omega) | (injection h with h; injection h with h1 h2; subst h1; simp) | cases h
/-- nest at block nb: its two cells, its row. -/
def Nest (w : World) (nb base : Nat) (st : List UInt8) (en : Bool) : Prop := ∃ v, Whole w nb 123 #[v, .bool en] ∧ Row w base v st
theorem Moved.below {nb base : Nat} {v : Value} {st st0 : List UInt8} {en : Bool} {W W' : World} (h : Moved nb base v st en W W') (hr : Row W base v st0) (hb : base ≤ W.heap.size) (hnb : base ≤ nb) : Below base W W' := by
  obtain ⟨v', Wm, h1, h2, h3, h4⟩ := h
  have b1 : Below base W Wm := Below.grown (Below.refl _ _) h3 hb (fun k hk => (World.ownsRow.lt hr k hk).1)
  exact Below.grown b1 h4 (Nat.le_trans hb h3.size) (fun k hk => by injection hk with hk; omega)
theorem Moved.nest {nb base : Nat} {v : Value} {st : List UInt8} {en : Bool} {W W' : World} (h : Moved nb base v st en W W') : Nest W' nb base st en := by
  obtain ⟨v', Wm, h1, h2, h3, h4⟩ := h
  exact ⟨v', h1, h2⟩
set_option maxHeartbeats 1000000 in
theorem shape_any {w : World} {A : Option Addr} {c : Nat} {l : List I} (hT : Tabs w) (hl : Ins w A l) (hn : l.length ≤ 20000) :
    Calls Tryd.prog 61 #[.slice A l.length c] w (IntPost (shapeZ l) w) := by
  have HL := Lib.hid hl
  have HT := Lib.hid hT
  have HN0 := Lib.hid (Whole.made w 123 #[.slice none 0 0, .bool false])
  obtain ⟨n, hnn⟩ : ∃ n, n = l.length := ⟨_, rfl⟩
  rw [← hnn] at hn ⊢
  have HNN := Lib.hid hnn
  have g0 : decide (20000 < (n : Int)) = false := decide_eq_false (by omega)
  clear hT hl hnn
  go_enter Tryd.func61, Tryd.ntmps61
  go_wp2
  go_loopw [11] (fun i wr => ∃ (k : Nat) (st : List UInt8) (en : Bool), k ≤ n ∧ i = .int .i64 k ∧ Nest wr w.heap.size w.heap.size st en ∧ st.length ≤ k ∧ Stand l k st en ∧ Below w.heap.size w wr ∧ w.heap.size < wr.heap.size) (fun i _ => n - (intOf i).toNat)
  case atStart => exact ⟨0, [], false, Nat.zero_le _, rfl, ⟨_, HN0.out, Row.nil _ _⟩, Nat.le_refl _, rfl, below_box w _, by simp⟩
  case round =>
    obtain ⟨k, st, en, hk, rfl, ⟨v, hnw, hrow⟩, hsl, hst, hb, hlt0⟩ := hrel
    by_cases hlt : k < n
    · obtain ⟨i, hi⟩ : ∃ i, l[k]? = some i := ⟨_, List.getElem?_eq_getElem (by rw [← HNN.out]; exact hlt)⟩
      obtain ⟨b, off, B, cc, rfl, hbl, ⟨k0, k1, k2, k3⟩, _⟩ := HL.out k i hi
      have m0 := (hb.cell (p := ⟨b, off + k * 4, none⟩) hbl).trans k0
      have m1 := (hb.cell (p := ⟨b, off + k * 4 + 1, none⟩) hbl).trans k1
      have m2 := (hb.cell (p := ⟨b, off + k * 4 + 2, none⟩) hbl).trans k2
      have m3 := (hb.cell (p := ⟨b, off + k * 4 + 3, none⟩) hbl).trans k3
      have HB := Lib.hid hb
      have HRW := Lib.hid (hrow.alloc (.cells (insC i B cc) 37))
      have HNW := Lib.hid (hnw.alloc (.cells (insC i B cc) 37))
      have HT2 := Lib.hid ((HT.out.below hb).below (below_box wr (.cells (insC i B cc) 37)))
      have hle : w.heap.size ≤ (wr.alloc (.cells (insC i B cc) 37)).heap.size := by rw [size_box]; omega
      cases en with
      | true =>
        have HS : Hid (shapeZ l = 30) := by
          unfold Stand at hst
          rw [if_pos rfl, ops_drop hi] at hst
          show shapeZ l = 30
          unfold shapeZ
          rw [hst, if_neg (by simp)]
        have HA := Lib.hid (add_ended HNW.out i.op)
        clear hnw hrow hst hb k0 k1 k2 k3 hi
        go_wp2_with (go_at_call 82; go_must ((with_reducible refine HA.out.mono ?_); rintro e w2 ⟨rfl, rfl⟩))
        go_ret
        exact ret_below HS.out.symm (HB.out.alloc (by omega) _)
      | false =>
        have hstep := hst.step hi
        cases ha : addZ st i.op with
        | none =>
          rw [ha] at hstep
          have HS : Hid (shapeZ l = 30) := by
            show shapeZ l = 30
            unfold shapeZ
            rw [hstep, if_neg (by simp)]
          have HA := Lib.hid (add_no HT2.out HNW.out HRW.out (by omega) ha)
          clear hnw hrow hst hb k0 k1 k2 k3 hi hstep ha
          go_wp2_with (go_at_call 82; go_must ((with_reducible refine HA.out.mono ?_); rintro e w2 ⟨rfl, hb2⟩; have HB2 := Lib.hid hb2; clear hb2))
          go_ret
          exact ret_below HS.out.symm ((HB.out.alloc (by omega) _).trans (HB2.out.mono hle))
        | some q =>
          obtain ⟨st', en'⟩ := q
          rw [ha] at hstep
          have HS := Lib.hid hstep
          have hl2 := addZ_len ha
          have HA := Lib.hid (add_ok HT2.out HNW.out HRW.out hle (by omega) ha)
          clear hnw hrow hst hb k0 k1 k2 k3 hi hstep ha
          go_wp2_with (go_at_call 82; go_must ((with_reducible refine HA.out.mono ?_); rintro e w2 ⟨rfl, hm⟩; have HM := Lib.hid hm; clear hm))
          go_roundw
          case rel =>
            have hbb := HM.out.below HRW.out hle (Nat.le_refl _)
            exact ⟨k + 1, st', en', by omega, by go_num, HM.out.nest, by omega, HS.out, (HB.out.alloc (by omega) _).trans hbb, by have := hbb.size; rw [size_box] at this; omega⟩
          case measure => simp [intOf]; omega
    · obtain rfl : k = n := by omega
      have c1 := hnw.cell 1
      simp only [List.getElem?_toArray, List.getElem?_cons_zero, List.getElem?_cons_succ] at c1
      have hd : (opsOf l).drop k = [] := List.drop_eq_nil_of_le (by unfold opsOf; rw [List.length_map, HNN.out]; exact Nat.le_refl _)
      unfold Stand at hst
      rw [hd] at hst
      have HB := Lib.hid hb
      cases en with
      | true =>
        have HS : Hid (shapeZ l = 0) := by show shapeZ l = 0; unfold shapeZ; rw [hst]; rfl
        clear hnw hrow hst hb hd
        go_wp2
        go_ret
        exact ret_below HS.out.symm HB.out
      | false =>
        have HS : Hid (shapeZ l = 30) := by
          show shapeZ l = 30
          unfold shapeZ
          rw [hst, if_neg (by unfold shapeGo; simp)]
        clear hnw hrow hst hb hd
        go_wp2
        go_ret
        exact ret_below HS.out.symm HB.out
end Go.Proofs.YtebgmfjgapmpfabDoor

/- Bodies as plain data: groups of locals, instructions; the reference's Locals, Much. -/
namespace Go.Proofs.YtebgmfjgapmpfabDoor
open Go.RowKit
set_option linter.unusedVariables false
set_option maxRecDepth 100000

/-- A group of locals; a body. -/
structure Lo where
  n : UInt32
  t : UInt8
structure Bd where
  ls : List Lo
  b : List I
abbrev bdC (x : Bd) (L : Option Addr) (l : Nat) (B : Option Addr) (c : Nat) : Array Value := #[.slice L x.ls.length l, .slice B x.b.length c]
abbrev bdV (x : Bd) (L : Option Addr) (l : Nat) (B : Option Addr) (c : Nat) : Value := .agg (bdC x L l B c)
abbrev bdZ : Array Value := #[.slice none 0 0, .slice none 0 0]
abbrev TwoB (W : World) (b : Nat) (x : Bd) (L : Option Addr) (l : Nat) (B : Option Addr) (c : Nat) : Prop :=
  W.cell? ⟨b, 0, none⟩ = some (.slice L x.ls.length l) ∧ W.cell? ⟨b, 1, none⟩ = some (.slice B x.b.length c)
theorem Whole.bd {w : World} {b : Nat} {t : TypeId} {x : Bd} {L : Option Addr} {l : Nat} {B : Option Addr} {c : Nat} (h : Whole w b t (bdC x L l B c)) : TwoB w b x L l B c := ⟨h.cell 0, h.cell 1⟩
/-- A block that holds a body, in a world grown from B: what is held of it. -/
abbrev BxBd (W0 : World) (b : Nat) (x : Bd) (L : Option Addr) (l : Nat) (B : Option Addr) (c : Nat) (W : World) : Prop := (Whole W b 60 (bdC x L l B c) ∧ Below W0.heap.size W0 W) ∧ TwoB W b x L l B c
section
variable {W0 W W' : World} {b : Nat} {x : Bd} {L : Option Addr} {l : Nat} {B : Option Addr} {c : Nat}
theorem bxBd_on (h : BxBd W0 b x L l B c W) (hb : Below W.heap.size W W') : BxBd W0 b x L l B c W' := ⟨⟨h.1.1.below hb, h.1.2.trans (hb.mono h.1.2.size)⟩, (h.1.1.below hb).bd⟩
theorem bxBd_start (w : World) (x : Bd) (L : Option Addr) (l : Nat) (B : Option Addr) (c : Nat) : BxBd w w.heap.size x L l B c (w.alloc (.cells (bdC x L l B c) 60)) := ⟨⟨Whole.made _ _ _, below_box _ _⟩, (Whole.made w 60 (bdC x L l B c)).bd⟩
theorem bxBd_bel (h : BxBd W0 b x L l B c W) : Below W0.heap.size W0 W := h.1.2
end
/-- The slice at A reads as these groups. -/
def Los (w : World) (A : Option Addr) (l : List Lo) : Prop :=
  ∀ j x, l[j]? = some x → ∃ b off, A = some ⟨b, off, none⟩ ∧ b < w.heap.size ∧ w.cell? ⟨b, off + j * 2, none⟩ = some (.int .u32 x.n.toNat) ∧ w.cell? ⟨b, off + j * 2 + 1, none⟩ = some (.int .u8 x.t.toNat)
theorem Los.below {w w' : World} {A : Option Addr} {l : List Lo} (h : Los w A l) (hb : Below w.heap.size w w') : Los w' A l := fun j x hx => by
  obtain ⟨b, off, e, h1, h2, h3⟩ := h j x hx
  exact ⟨b, off, e, Nat.lt_of_lt_of_le h1 hb.size, (hb.cell (p := ⟨b, _, none⟩) h1).trans h2, (hb.cell (p := ⟨b, _, none⟩) h1).trans h3⟩
/-- How many locals behind n; -1: too many. -/
def locGo : Nat → List Lo → Int
  | n, [] => n
  | n, x :: r => if 1000 < x.n.toNat ∨ 1000 < n + x.n.toNat then -1 else locGo (n + x.n.toNat) r
theorem lo_drop {l : List Lo} {k : Nat} {x : Lo} (h : l[k]? = some x) : l.drop k = x :: l.drop (k + 1) := by
  obtain ⟨h1, h2⟩ := List.getElem?_eq_some_iff.1 h
  rw [List.drop_eq_getElem_cons h1, h2]
theorem locGo_ge : ∀ (n : Nat) (l : List Lo), locGo n l < 0 → locGo n l = -1
  | n, [], h => by unfold locGo at h; omega
  | n, x :: r, h => by
    unfold locGo at h ⊢
    by_cases e : 1000 < x.n.toNat ∨ 1000 < n + x.n.toNat
    · rw [if_pos e]
    · rw [if_neg e] at h ⊢
      exact locGo_ge _ r h
/-- Their types, one for each local. -/
def typL (l : List Lo) : List UInt8 := l.flatMap fun x => List.replicate x.n.toNat x.t
theorem typL_len : ∀ (n : Nat) (l : List Lo), 0 ≤ locGo n l → locGo n l = n + (typL l).length ∧ (n ≤ 1000 → n + (typL l).length ≤ 1000)
  | n, [], h => by simp [locGo, typL]
  | n, x :: r, h => by
    unfold locGo at h ⊢
    by_cases e : 1000 < x.n.toNat ∨ 1000 < n + x.n.toNat
    · rw [if_pos e] at h; omega
    · rw [if_neg e] at h ⊢
      obtain ⟨h1, h2⟩ := typL_len _ r h
      have h3 : (typL (x :: r)).length = x.n.toNat + (typL r).length := by unfold typL; rw [List.flatMap_cons, List.length_append, List.length_replicate]
      rw [h3]
      refine ⟨by rw [h1]; omega, fun _ => by have := h2 (by omega); omega⟩
set_option maxHeartbeats 2000000 in
theorem rloc_any {w : World} {A : Option Addr} {c : Nat} {l : List Lo} (hl : Los w A l) (hn : (l.length : Int) ≤ 9223372036854775807) :
    Calls Tryd.prog 8 #[.slice A l.length c] w fun e w' => e = .returned (.int .i64 (locGo 0 l)) ∧ w = w' := by
  have HL := Lib.hid hl
  obtain ⟨R, hR⟩ : ∃ R, R = locGo 0 l := ⟨_, rfl⟩
  have HR := Lib.hid hR
  rw [← hR]
  obtain ⟨n, hnn⟩ : ∃ n, n = l.length := ⟨_, rfl⟩
  have HNN := Lib.hid hnn
  rw [← hnn] at hn ⊢
  clear hl hnn hR
  go_enter Tryd.func8, Tryd.ntmps8
  go_wp2
  go_loopw [3, 4] (fun s i wr => ∃ (k m : Nat), k ≤ n ∧ i = .int .i64 k ∧ s = .int .i64 m ∧ m ≤ 1000 ∧ locGo m (l.drop k) = R ∧ wr = w) (fun _ i _ => n - (intOf i).toNat)
  case atStart => exact ⟨0, 0, Nat.zero_le _, rfl, rfl, by omega, HR.out.symm, rfl⟩
  case round =>
    obtain ⟨k, m, hk, rfl, rfl, hm, hg, rfl⟩ := hrel
    by_cases hlt : k < n
    · obtain ⟨x, hx⟩ : ∃ x, l[k]? = some x := ⟨_, List.getElem?_eq_getElem (by rw [← HNN.out]; exact hlt)⟩
      obtain ⟨b, off, rfl, hbl, c0, c1⟩ := HL.out k x hx
      rw [lo_drop hx] at hg
      unfold locGo at hg
      have hxn := x.n.toNat_lt
      obtain ⟨v, hv⟩ : ∃ v, v = x.n.toNat := ⟨_, rfl⟩
      rw [← hv] at hg c0 hxn
      have wv : IntKind.i64.wrap (v : Int) = v := by rw [IntKind.wrap_i64]; omega
      have ws : IntKind.i64.wrap ((m : Int) + (v : Int)) = (m : Int) + (v : Int) := by rw [IntKind.wrap_i64]; omega
      by_cases h1 : 1000 < v
      · rw [if_pos (.inl h1)] at hg
        have d1 : decide ((1000 : Int) < (v : Int)) = true := decide_eq_true (by omega)
        clear h1 hv hx
        go_wp2
        go_ret
        subst hg
        exact ⟨rfl, rfl⟩
      · have d1 : decide ((1000 : Int) < (v : Int)) = false := decide_eq_false (by omega)
        by_cases h2 : 1000 < m + v
        · rw [if_pos (.inr h2)] at hg
          have d2 : decide ((1000 : Int) < (m : Int) + (v : Int)) = true := decide_eq_true (by omega)
          clear h1 h2 hv hx
          go_wp2
          go_ret
          subst hg
          exact ⟨rfl, rfl⟩
        · rw [if_neg (by omega)] at hg
          have d2 : decide ((1000 : Int) < (m : Int) + (v : Int)) = false := decide_eq_false (by omega)
          have HG := Lib.hid hg
          clear h1 hv hx hg
          go_wp2
          go_roundw
          case rel => exact ⟨k + 1, m + v, by omega, by go_num, by rw [Int.natCast_add], by omega, HG.out, trivial⟩
          case measure => simp [intOf]; omega
    · have hkn : k = l.length := by rw [← HNN.out]; omega
      rw [hkn, List.drop_length] at hg
      have hg2 : (m : Int) = R := hg
      have HG := Lib.hid hg2
      clear hg hg2 hkn
      go_wp2
      go_ret
      have e := HG.out
      subst e
      exact ⟨rfl, rfl⟩
/-- Has one many labels? -/
def muchZ (l : List I) : Bool := l.any fun i => decide (50 < i.l.length)
theorem much_drop {l : List I} {k : Nat} {i : I} (h : l[k]? = some i) : muchZ (l.drop k) = (decide (50 < i.l.length) || muchZ (l.drop (k + 1))) := by
  obtain ⟨h1, h2⟩ := List.getElem?_eq_some_iff.1 h
  rw [List.drop_eq_getElem_cons h1, h2]
  rfl
end Go.Proofs.YtebgmfjgapmpfabDoor

/- The reference's Walk and Shape. -/
namespace Go.Proofs.YtebgmfjgapmpfabDoor
open Go.RowKit
set_option linter.unusedVariables false
set_option maxRecDepth 100000

def opc (c : UInt8) : UInt8 := if c = 4 then 105 else if c = 5 then 101 else 98
def opens (n : Nat) : Bool := decide (n = 2 ∨ n = 3 ∨ n = 4)
theorem opens_all : ∀ n, n < 256 → (immR n == 1) = opens n := by decide +kernel
theorem opens_iff {op : UInt8} : immR op.toNat = 1 ↔ (op.toNat = 2 ∨ op.toNat = 3 ∨ op.toNat = 4) := by
  have := opens_all op.toNat op.toNat_lt
  constructor
  · intro h
    have h2 : (immR op.toNat == 1) = true := by simpa using h
    rw [h2] at this
    unfold opens at this
    simpa using this.symm
  · intro h
    have h2 : opens op.toNat = true := by unfold opens; simpa using h
    rw [h2] at this
    simpa using this
/-- Only what opens a block, or an else, stands there. -/
def Clean (st : List UInt8) : Prop := ∀ c ∈ st, c.toNat = 2 ∨ c.toNat = 3 ∨ c.toNat = 4 ∨ c.toNat = 5
theorem clean_add {st st' : List UInt8} {op : UInt8} {en : Bool} (h : Clean st) (ha : addZ st op = some (st', en)) : Clean st' := by
  unfold addZ at ha
  by_cases h1 : immR op.toNat = 1
  · rw [if_pos h1] at ha
    injection ha with ha; injection ha with ha1 ha2
    subst ha1
    intro c hc
    rcases List.mem_append.1 hc with hc | hc
    · exact h c hc
    · rw [List.mem_singleton] at hc
      subst hc
      have := opens_iff.1 h1
      omega
  · rw [if_neg h1] at ha
    by_cases h5 : op = 5
    · rw [if_pos h5] at ha
      by_cases h4 : st.getLast? = some 4
      · rw [if_pos h4] at ha
        injection ha with ha; injection ha with ha1 ha2
        subst ha1
        intro c hc
        rcases List.mem_append.1 hc with hc | hc
        · exact h c ((List.dropLast_sublist st).subset hc)
        · rw [List.mem_singleton] at hc
          subst hc
          exact .inr (.inr (.inr rfl))
      · rw [if_neg h4] at ha; cases ha
    · rw [if_neg h5] at ha
      by_cases h11 : op = 11
      · rw [if_pos h11] at ha
        by_cases h0 : st = []
        · rw [if_pos h0] at ha
          injection ha with ha; injection ha with ha1 ha2
          subst ha1
          exact h
        · rw [if_neg h0] at ha
          injection ha with ha; injection ha with ha1 ha2
          subst ha1
          exact fun c hc => h c ((List.dropLast_sublist st).subset hc)
      · rw [if_neg h11] at ha
        injection ha with ha; injection ha with ha1 ha2
        subst ha1
        exact h
theorem op_is {op : UInt8} {n : Nat} (h : op.toNat = n) (hn : n < 256) : op = UInt8.ofNat n := by
  apply u8_ext
  rw [h, UInt8.toNat_ofNat']
  omega
theorem last_map {st : List UInt8} {x : UInt8} (h : st.getLast? = some x) : (st.map opc)[st.length - 1]? = some (opc x) := by
  rw [List.getElem?_map, ← List.getLast?_eq_getElem?, h]
  rfl
theorem opc_i {st : List UInt8} {x : UInt8} (hc : Clean st) (h : st.getLast? = some x) : (((opc x).toNat : Int) != 105) = decide (x ≠ 4) := by
  have hx : x ∈ st := List.mem_of_getLast? h
  have := hc x hx
  unfold opc
  by_cases h4 : x = 4
  · subst h4; rfl
  · rw [if_neg h4]
    by_cases h5 : x = 5
    · subst h5; rfl
    · rw [if_neg h5]
      simp [h4]
theorem map_dropLast (st : List UInt8) : (st.map opc).take (st.length - 1) = st.dropLast.map opc := by
  rw [← List.map_take, List.dropLast_eq_take]
/-- What Walk tells: is it a body? -/
def WalkPost (l : List I) (w : World) (e : Ending) (w' : World) : Prop :=
  ∃ m x : Int, e = .returned (.tuple #[.int .i64 m, .int .i64 x]) ∧ (shapeGo [] (opsOf l) = true ↔ (m ≠ 0 ∧ m = l.length)) ∧ Below w.heap.size w w'
end Go.Proofs.YtebgmfjgapmpfabDoor

/- Instructions in a row of the call's own; blocks that are apart by their types; what is read lies behind a bound. -/
namespace Go.Proofs.YtebgmfjgapmpfabDoor
open Go.RowKit
set_option linter.unusedVariables false
set_option maxRecDepth 100000

theorem infoIns : (Tryd.prog.info? 37).map (fun i => (i.zero, i.size, i.bytes)) = some (some (.agg #[.int .u8 0, .int .u64 0, .int .u64 0, .slice none 0 0]), 4, 48) := by kernel_rfl
abbrev Slot := I × Option Addr × Nat
def rowC (x : Slot) : List Value := [.int .u8 x.1.op.toNat, .int .u64 x.1.a, .int .u64 x.1.b, .slice x.2.1 x.1.l.length x.2.2]
def RowI (W : World) (base : Nat) (v : Value) (rows : List Slot) : Prop := W.ownsRow base 37 4 v rows.length (rows.flatMap rowC)
theorem own_own {W : World} {b b' : Nat} {e e' : TypeId} {s s' n n' : Nat} {v v' : Value} {xs xs' : List Value} (h : W.ownsRow b e s v n xs) (h' : W.ownsRow b' e' s' v' n' xs') (ht : e ≠ e') : v.ownBlock = none ∨ v.ownBlock ≠ v'.ownBlock := by
  rcases h.2 with ⟨rfl, _⟩ | ⟨g, cap, cur, rfl, _, hg, _⟩
  · exact .inl rfl
  · exact .inr (own_whole h' (show Whole W g e cur from hg) ht)
theorem own_far {W : World} {b : Nat} {e : TypeId} {s n q : Nat} {v : Value} {xs : List Value} {t : TypeId} {cs : Array Value} (h : W.ownsRow b e s v n xs) (hw : Whole W q t cs) (ht : t ≠ e) : v.ownBlock = none ∨ v.ownBlock ≠ some q := .inr (fun e2 => own_whole h hw ht e2.symm)
/-- append of a new block of one instruction. -/
theorem rowsI_new {w : World} {ops : Array Oper} {rest : List Oper} {o : Oper} {a : Act} {Q : Exit → Act → World → Prop} (hgd : o.guard = none) (s x : Operand)
    (ho : o.op = .call { callee := .builtin .append, args := #[s, x], argTypes := #[58, 58] })
    (B : Nat) (v : Value) (l : List Slot) (hs : a.eval s = v) (hr : RowI w B v l) (g : Nat) (r : Slot) (hx : a.eval x = .slice (some ⟨g, 0, none⟩) 1 1)
    (hg : Whole w g 37 (rowC r).toArray) (hb : l.length ≤ 1000) (hB : B ≤ w.heap.size)
    (h : ∀ v' w', RowI w' B v' (l ++ [r]) → w.grownBy w' v.ownBlock → wpList Tryd.prog ops Q rest (a.put o.dst v') w') : wpList Tryd.prog ops Q (o :: rest) a w := by
  obtain ⟨i0, hi0, hz0, hz1, hz2⟩ := info_parts infoIns
  refine wpList_append_own _ hgd s x _ ho B 37 i0 _ 4 48 Tryd.underlying58 hi0 hz0 hz1 hz2 rfl (by omega) v _ _ hs hr ⟨g, 0, none⟩ 1 1 (rowC r) hx rfl ?_ ?_ (by unfold maxLen; omega) (by omega) hB (fun v' w' h2 h3 _ => h v' w' ?_ h3)
  · intro j u hu
    rw [Go.WideShapes.add_plain, Nat.zero_add, hg.cell]
    simpa using hu
  · intro u hu
    unfold rowC at hu
    simp only [List.mem_cons, List.not_mem_nil, or_false] at hu
    rcases hu with rfl | rfl | rfl | rfl <;> rfl
  · unfold RowI
    rw [List.length_append, List.flatMap_append]
    simpa using h2
theorem flatI_get : ∀ (l : List Slot) (j : Nat) (x : Slot) (u : Nat), l[j]? = some x → u < 4 → (l.flatMap rowC)[j * 4 + u]? = (rowC x)[u]?
  | [], j, x, u, h, _ => by cases h
  | y :: l, 0, x, u, h, hu => by
    injection h with h
    subst h
    rw [List.flatMap_cons, Nat.zero_mul, Nat.zero_add, List.getElem?_append_left (by show u < 4; exact hu)]
  | y :: l, j + 1, x, u, h, hu => by
    rw [List.flatMap_cons, List.getElem?_append_right (by show 4 ≤ _; omega)]
    have e : (j + 1) * 4 + u - (rowC y).length = j * 4 + u := by show (j + 1) * 4 + u - 4 = _; omega
    rw [e]
    exact flatI_get l j x u h hu
/-- Instructions that lie behind a bound. -/
def InsF (lo : Nat) (w : World) (A : Option Addr) (l : List I) : Prop :=
  ∀ j i, l[j]? = some i → ∃ b off B c, A = some ⟨b, off, none⟩ ∧ lo ≤ b ∧ b < w.heap.size ∧ (w.cell? ⟨b, off + j * 4, none⟩ = some (.int .u8 i.op.toNat) ∧ w.cell? ⟨b, off + j * 4 + 1, none⟩ = some (.int .u64 i.a) ∧
    w.cell? ⟨b, off + j * 4 + 2, none⟩ = some (.int .u64 i.b) ∧ w.cell? ⟨b, off + j * 4 + 3, none⟩ = some (.slice B i.l.length c)) ∧ LiesL w B i.l ∧ ∀ a, B = some a → lo ≤ a.block
theorem InsF.ins {lo : Nat} {w : World} {A : Option Addr} {l : List I} (h : InsF lo w A l) : Ins w A l := fun j i hi => by
  obtain ⟨b, off, B, c, e, h1, h2, hk, hl, _⟩ := h j i hi
  exact ⟨b, off, B, c, e, h2, hk, hl⟩
theorem InsF.mono {lo lo' : Nat} {w : World} {A : Option Addr} {l : List I} (h : InsF lo w A l) (hle : lo' ≤ lo) : InsF lo' w A l := fun j i hi => by
  obtain ⟨b, off, B, c, e, h1, h2, hk, hl, hf⟩ := h j i hi
  exact ⟨b, off, B, c, e, by omega, h2, hk, hl, fun a ha => Nat.le_trans hle (hf a ha)⟩
theorem InsF.keep {lo : Nat} {w w' : World} {A : Option Addr} {l : List I} {q : Nat} (h : InsF lo w A l) (hg : w.grownBy w' (some q)) (hq : q < lo) : InsF lo w' A l := fun j i hi => by
  obtain ⟨b, off, B, c, e, h1, h2, ⟨k0, k1, k2, k3⟩, hl, hf⟩ := h j i hi
  have hc : ∀ o, w'.cell? ⟨b, o, none⟩ = w.cell? ⟨b, o, none⟩ := fun o => by
    unfold World.cell?
    rw [hg.block b h2 (by simp only [ne_eq, Option.some.injEq]; omega)]
  exact ⟨b, off, B, c, e, h1, Nat.lt_of_lt_of_le h2 hg.size, ⟨(hc _).trans k0, (hc _).trans k1, (hc _).trans k2, (hc _).trans k3⟩, Lies.keep hl hg (fun a ha => by have := hf a ha; omega), hf⟩
/-- What a row of instructions reads as. -/
theorem RowI.insF {W : World} {base : Nat} {v : Value} {rows : List Slot} (h : RowI W base v rows) (hl : ∀ x ∈ rows, LabT W x.2.1 x.1.l ∧ ∀ a, x.2.1 = some a → base ≤ a.block) : ∃ A c, v = .slice A rows.length c ∧ InsF base W A (rows.map (·.1)) := by
  rcases h.2 with ⟨rfl, h0⟩ | ⟨g, cap, cur, rfl, hb, hg, _, _, _, ht⟩
  · have : rows = [] := List.eq_nil_of_length_eq_zero h0
    subst this
    exact ⟨none, 0, rfl, fun j i hi => by cases hi⟩
  · refine ⟨some ⟨g, 0, none⟩, cap, rfl, fun j i hi => ?_⟩
    obtain ⟨x, hx, rfl⟩ : ∃ x, rows[j]? = some x ∧ x.1 = i := by
      rw [List.getElem?_map] at hi
      cases hx : rows[j]? with
      | none => rw [hx] at hi; cases hi
      | some x => rw [hx] at hi; injection hi with hi; exact ⟨x, rfl, hi⟩
    have hj := (List.getElem?_eq_some_iff.1 hx).1
    have key : ∀ u, u < 4 → W.cell? ⟨g, 0 + j * 4 + u, none⟩ = (rowC x)[u]? := fun u hu => by
      rw [cell_of_row W g (0 + j * 4 + u) cur _ _ hg, ← flatI_get rows j x u hx hu, ← ht, List.getElem?_take, if_pos (by omega)]
      simp
    obtain ⟨h1, h2⟩ := hl x (List.mem_of_getElem? hx)
    exact ⟨g, 0, x.2.1, x.2.2, rfl, hb, (Array.getElem?_eq_some_iff.1 hg).1, ⟨key 0 (by omega), key 1 (by omega), key 2 (by omega), key 3 (by omega)⟩, h1.lies, h2⟩
end Go.Proofs.YtebgmfjgapmpfabDoor

/- GetBody of a body's bytes. -/
namespace Go.Proofs.YtebgmfjgapmpfabDoor
open Go.RowKit
set_option linter.unusedVariables false
set_option maxRecDepth 100000

theorem take_snocG {α : Type} {l : List α} {k : Nat} {c : α} (h : l[k]? = some c) : l.take (k + 1) = l.take k ++ [c] := by
  rw [List.take_add_one, h]; rfl
/-- A body's bytes. -/
noncomputable def bodyL (l : List I) : List UInt8 := l.flatMap putL
theorem bodyL_snoc {l : List I} {k : Nat} {i : I} (h : l[k]? = some i) : bodyL (l.take (k + 1)) = bodyL (l.take k) ++ putL i := by
  unfold bodyL
  rw [take_snocG h, List.flatMap_append]
  simp
theorem bodyL_at {l : List I} {k : Nat} {i : I} (h : l[k]? = some i) : bodyL l = bodyL (l.take k) ++ (putL i ++ bodyL (l.drop (k + 1))) := by
  have e1 : l = l.take k ++ i :: l.drop (k + 1) := by
    obtain ⟨hj3, hj4⟩ := List.getElem?_eq_some_iff.1 h
    rw [← hj4, ← List.drop_eq_getElem_cons hj3, List.take_append_drop]
  conv => lhs; rw [e1]
  unfold bodyL
  rw [List.flatMap_append, List.flatMap_cons]
def lenOf : Value → Nat
  | .slice _ n _ => n
  | _ => 0
/-- How far GetBody has come; nest's block is the first of the call's own. -/
structure GB (w : World) (p : Nat) (l : List UInt8) (full : List I) (k0 k : Nat) (v : Value) (rows : List Slot) (st : List UInt8) (en : Bool) (W : World) : Prop where
  sc : Sc W p l k0
  gr : w.grownBy W (some p)
  row : RowI W w.heap.size v rows
  eq : rows.map (·.1) = full.take k
  labs : ∀ x ∈ rows, LabT W x.2.1 x.1.l ∧ ∀ a, x.2.1 = some a → w.heap.size ≤ a.block
  hp : p < w.heap.size
  tb : TbP p W
  hk : k ≤ full.length
  sl : st.length ≤ k
  st : Stand full k st en
section
variable {w : World} {p : Nat} {l : List UInt8} {full : List I} {k0 k : Nat} {v : Value} {rows : List Slot} {st : List UInt8} {en : Bool} {W W' : World}
theorem GB.size (h : GB w p l full k0 k v rows st en W) : w.heap.size ≤ W.heap.size := h.gr.size
theorem GB.len (h : GB w p l full k0 k v rows st en W) : rows.length = k := by
  have := congrArg List.length h.eq
  rw [List.length_map, List.length_take] at this
  have := h.hk
  omega
/-- A block that is no row of instructions and holds no labels is written. -/
theorem GB.put (h : GB w p l full k0 k v rows st en W) {q : Nat} (hg : W.grownBy W' (some q)) (hq : w.heap.size ≤ q) (h1 : v.ownBlock = none ∨ v.ownBlock ≠ some q) (h2 : ∀ x ∈ rows, ∀ a, x.2.1 = some a → some a.block ≠ some q) : GB w p l full k0 k v rows st en W' :=
  have hp := h.hp
  ⟨h.sc.grown hg (by simp only [ne_eq, Option.some.injEq]; omega) (fun g e => by injection e with e; omega), gb_before h.gr hg (fun g e => .inr (by injection e with e; omega)), World.ownsRow.kept h.row hg h1, h.eq,
    fun x hx => ⟨(h.labs x hx).1.keep hg (h2 x hx), (h.labs x hx).2⟩, h.hp, h.tb.grown hg (fun g e => by injection e with e; omega), h.hk, h.sl, h.st⟩
/-- A block of another type. -/
theorem GB.putT (h : GB w p l full k0 k v rows st en W) {q : Nat} {t : TypeId} {cs : Array Value} (hw : Whole W q t cs) (hg : W.grownBy W' (some q)) (hq : w.heap.size ≤ q) (t1 : t ≠ 37) (t2 : t ≠ 61) : GB w p l full k0 k v rows st en W' :=
  h.put hg hq (own_far h.row hw t1) (fun x hx => (h.labs x hx).1.apart hw t2)
theorem GB.below (h : GB w p l full k0 k v rows st en W) (hb : Below W.heap.size W W') : GB w p l full k0 k v rows st en W' :=
  ⟨h.sc.below hb, gb_trans h.gr (gb_of_below _ hb), World.ownsRow.kept h.row (gb_of_below none hb) (by cases v.ownBlock with
    | none => exact .inl rfl
    | some g => exact .inr (by simp)), h.eq, fun x hx => ⟨(h.labs x hx).1.keep (gb_of_below none hb) (fun a _ => by simp), (h.labs x hx).2⟩, h.hp, h.tb.grown (gb_of_below none hb) (fun g e => by cases e), h.hk, h.sl, h.st⟩
/-- A step of nest. -/
theorem GB.moved (h : GB w p l full k0 k v rows st en W) {nb : Nat} {vo : Value} {so st' : List UInt8} {en' : Bool} {cs : Array Value} (hm : Moved nb w.heap.size vo st' en' W W') (hr : Row W w.heap.size vo so) (hw : Whole W nb 123 cs) (hnb : w.heap.size ≤ nb) : GB w p l full k0 k v rows st en W' := by
  obtain ⟨v', Wm, h1, h2, h3, h4⟩ := hm
  have hm1 : GB w p l full k0 k v rows st en Wm := by
    have hlt := World.ownsRow.lt hr
    have hp := h.hp
    refine ⟨h.sc.grown h3 (fun e => by have := hlt p e.symm; omega) (fun g e => by have := hlt g e; omega), gb_before h.gr h3 (fun g e => .inr (hlt g e).1), World.ownsRow.kept h.row h3 (own_own h.row hr (by decide)), h.eq, fun x hx => ⟨(h.labs x hx).1.keep h3 (lab_own (h.labs x hx).1 hr (by decide)), (h.labs x hx).2⟩, h.hp, h.tb.grown h3 (fun g e => by have := hlt g e; omega), h.hk, h.sl, h.st⟩
  exact hm1.putT (hw.grown h3 (own_whole hr hw (by decide))) h4 hnb (by decide) (by decide)
theorem Moved.whole {nb base q : Nat} {vo : Value} {so st' : List UInt8} {en' : Bool} {t : TypeId} {cs cs' : Array Value} (hm : Moved nb base vo st' en' W W') (hr : Row W base vo so) (hn : Whole W nb 123 cs') (hw : Whole W q t cs) (t1 : t ≠ 5) (t2 : t ≠ 123) : Whole W' q t cs := by
  obtain ⟨v', Wm, h1, h2, h3, h4⟩ := hm
  have hq : q ≠ nb := hw.apart hn t2
  exact (hw.grown h3 (own_whole hr hw t1)).grown h4 (by simp only [ne_eq, Option.some.injEq]; exact hq)
theorem GB.got {k2 : Nat} (h : GB w p l full k0 k v rows st en W) (hs : Sc W' p l k2) (hg : W.grownBy W' (some p)) : GB w p l full k2 k v rows st en W' := by
  have hp := h.hp
  have hlt := World.ownsRow.lt h.row
  obtain ⟨A, cap, hw, _⟩ := h.sc
  exact ⟨hs, gb_trans h.gr hg, World.ownsRow.kept h.row hg (.inr (fun e => by have := hlt p e; omega)), h.eq, fun x hx => ⟨(h.labs x hx).1.keep hg ((h.labs x hx).1.apart hw (by decide)), (h.labs x hx).2⟩, h.hp, h.tb.self hg, h.hk, h.sl, h.st⟩
theorem LabT.moved {nb base : Nat} {vo : Value} {so st' : List UInt8} {en' : Bool} {cs' : Array Value} {A : Option Addr} {ls : List Int} (h : LabT W A ls) (hm : Moved nb base vo st' en' W W') (hr : Row W base vo so) (hn : Whole W nb 123 cs') : LabT W' A ls := by
  rcases h with h | ⟨g, cur, rfl, hw, ht⟩
  · exact .inl h
  · exact .inr ⟨g, cur, rfl, hm.whole hr hn hw (by decide) (by decide), ht⟩
theorem LabT.below {A : Option Addr} {ls : List Int} (h : LabT W A ls) (hb : Below W.heap.size W W') : LabT W' A ls := h.keep (gb_of_below none hb) (fun a _ => by simp)
/-- One more instruction is appended. -/
theorem GB.app (h : GB w p l full k0 k v rows st en W) {x : Slot} {v' : Value} {st' : List UInt8} {en' : Bool} (hx : full[k]? = some x.1) (hl : LabT W x.2.1 x.1.l ∧ ∀ a, x.2.1 = some a → w.heap.size ≤ a.block) (hr : RowI W' w.heap.size v' (rows ++ [x])) (hg : W.grownBy W' v.ownBlock)
    (hsl : st'.length ≤ k + 1) (hst : Stand full (k + 1) st' en') : GB w p l full k0 (k + 1) v' (rows ++ [x]) st' en' W' := by
  have hlt := World.ownsRow.lt h.row
  have hp := h.hp
  have hk := (List.getElem?_eq_some_iff.1 hx).1
  refine ⟨h.sc.grown hg (fun e => by have := hlt p e.symm; omega) (fun g e => by have := hlt g e; omega), gb_before h.gr hg (fun g e => .inr (hlt g e).1), hr, by rw [List.map_append, h.eq, take_snocG hx]; rfl, fun y hy => ?_, h.hp, h.tb.grown hg (fun g e => by have := hlt g e; omega), by omega, hsl, hst⟩
  rcases List.mem_append.1 hy with hy | hy
  · exact ⟨(h.labs y hy).1.keep hg (lab_own (h.labs y hy).1 h.row (by decide)), (h.labs y hy).2⟩
  · rw [List.mem_singleton] at hy
    subst hy
    exact ⟨hl.1.keep hg (lab_own hl.1 h.row (by decide)), hl.2⟩
end
/-- A row of instructions of the call's own; the labels of each lie behind the row's bound. -/
structure RowIL (W : World) (base : Nat) (v : Value) (rows : List Slot) : Prop where
  own : RowI W base v rows
  labs : ∀ x ∈ rows, LabT W x.2.1 x.1.l ∧ ∀ a, x.2.1 = some a → base ≤ a.block
theorem RowIL.nil (W : World) (base : Nat) : RowIL W base (.slice none 0 0) [] := ⟨World.ownsRow_nil W base _ 4, fun x hx => by cases hx⟩
theorem RowIL.lt {W : World} {base : Nat} {v : Value} {rows : List Slot} (h : RowIL W base v rows) : ∀ k, v.ownBlock = some k → base ≤ k ∧ k < W.heap.size := World.ownsRow.lt h.own
theorem RowIL.past {W W' : World} {base b : Nat} {v : Value} {rows : List Slot} (h : RowIL W base v rows) (hg : W.grownBy W' (some b)) (hb : b < base) : RowIL W' base v rows :=
  ⟨World.ownsRow.kept h.own hg (by
    cases hv : v.ownBlock with
    | none => exact .inl rfl
    | some k => exact .inr (by have := (World.ownsRow.lt h.own k hv).1; simp only [ne_eq, Option.some.injEq]; omega)),
   fun x hx => ⟨(h.labs x hx).1.keep hg (fun a ha => by have := (h.labs x hx).2 a ha; simp only [ne_eq, Option.some.injEq]; omega), (h.labs x hx).2⟩⟩
theorem RowIL.later {W W' : World} {base : Nat} {v : Value} {rows : List Slot} (h : RowIL W base v rows) (hb : Below W.heap.size W W') : RowIL W' base v rows :=
  ⟨World.ownsRow.kept h.own (gb_of_below none hb) (by cases v.ownBlock with
    | none => exact .inl rfl
    | some k => exact .inr (by simp)), fun x hx => ⟨(h.labs x hx).1.keep (gb_of_below none hb) (fun a _ => by simp), (h.labs x hx).2⟩⟩
theorem RowIL.mono {W : World} {base base' : Nat} {v : Value} {rows : List Slot} (h : RowIL W base v rows) (hb : base' ≤ base) : RowIL W base' v rows := by
  obtain ⟨⟨h1, h2⟩, h3⟩ := h
  refine ⟨⟨h1, ?_⟩, fun x hx => ⟨(h3 x hx).1, fun a ha => Nat.le_trans hb ((h3 x hx).2 a ha)⟩⟩
  rcases h2 with h2 | ⟨g, cap, cur, e, hg, r⟩
  · exact .inl h2
  · exact .inr ⟨g, cap, cur, e, Nat.le_trans hb hg, r⟩
/-- A row of another type grows. -/
theorem RowIL.beside {W W' : World} {base b : Nat} {e : TypeId} {s n : Nat} {v u : Value} {xs : List Value} {rows : List Slot} (h : RowIL W base v rows) (hr : W.ownsRow b e s u n xs) (hg : W.grownBy W' u.ownBlock) (t1 : 37 ≠ e) (t2 : 61 ≠ e) : RowIL W' base v rows :=
  ⟨World.ownsRow.kept h.own hg (own_own h.own hr t1), fun x hx => ⟨(h.labs x hx).1.keep hg (lab_own (h.labs x hx).1 hr t2), (h.labs x hx).2⟩⟩
theorem RowIL.insF {W : World} {base n c : Nat} {A : Option Addr} {rows : List Slot} (h : RowIL W base (.slice A n c) rows) : InsF base W A (rows.map (·.1)) := by
  obtain ⟨B, d, e, hi⟩ := h.own.insF h.labs
  injection e with e1 e2 e3
  rw [e1]
  exact hi
/-- What GetBody hands back. -/
def GotB (p : Nat) (l : List UInt8) (full : List I) (k : Nat) (w : World) (e : Ending) (w' : World) : Prop :=
  ∃ A c rows, e = .returned (.slice A full.length c) ∧ RowIL w' w.heap.size (.slice A full.length c) rows ∧ rows.map (·.1) = full ∧ Sc w' p l k ∧ w.grownBy w' (some p)
end Go.Proofs.YtebgmfjgapmpfabDoor

/- PutBody; the reference's SameAll. -/
namespace Go.Proofs.YtebgmfjgapmpfabDoor
open Go.RowKit
set_option linter.unusedVariables false
set_option maxRecDepth 100000

/-- The first error of one. -/
def errZ : List I → Int
  | [] => 0
  | i :: r => if rightZ i ≠ 0 then rightZ i else errZ r
theorem errZ_drop {l : List I} {k : Nat} {i : I} (h : l[k]? = some i) : errZ (l.drop k) = if rightZ i ≠ 0 then rightZ i else errZ (l.drop (k + 1)) := by
  obtain ⟨hj3, hj4⟩ := List.getElem?_eq_some_iff.1 h
  rw [List.drop_eq_getElem_cons hj3, hj4]
  rfl
theorem errZ_all : ∀ {l : List I}, errZ l = 0 → ∀ i ∈ l, rightZ i = 0
  | [], _, i, hi => by cases hi
  | j :: r, h, i, hi => by
    unfold errZ at h
    by_cases hj : rightZ j ≠ 0
    · rw [if_pos hj] at h; exact absurd h hj
    · rw [if_neg hj] at h
      rcases List.mem_cons.1 hi with rfl | hi
      · omega
      · exact errZ_all h i hi
/-- What PutBody tells. -/
def codeZ (l : List I) : Int := if shapeZ l = 0 then errZ l else shapeZ l
theorem putL_len {i : I} (h : i.Ok) (hl : i.l.length ≤ 100) : (putL i).length ≤ 1100 := by
  obtain ⟨a0, a1, b0, b1, hl0⟩ := h
  have k1 := lebL_len i.a (by omega)
  have k2 := lebL_len i.b (by omega)
  have k3 := lebL_len (i.l.length : Int) (by omega)
  have k4 := labsL_len i.l hl0
  have k5 := sebL_len (s32 i.a) (by unfold s32; omega) (by unfold s32; omega)
  have k6 := sebL_len (s64 i.a) (by unfold s64; omega) (by unfold s64; omega)
  have key : (immL i).length ≤ 1050 := by
    unfold immL immB labL
    repeat' split
    all_goals (try simp only [List.length_append, List.length_cons, List.length_nil])
    all_goals omega
  unfold putL
  rw [List.length_cons]
  omega
theorem bodyL_len : ∀ l : List I, (∀ i ∈ l, i.Ok ∧ i.l.length ≤ 100) → (bodyL l).length ≤ l.length * 1100
  | [], _ => by simp [bodyL]
  | i :: r, h => by
    have h1 := bodyL_len r (fun j hj => h j (List.mem_cons_of_mem _ hj))
    have h2 := putL_len (h i (by simp)).1 (h i (by simp)).2
    unfold bodyL at h1 ⊢
    rw [List.flatMap_cons, List.length_append, List.length_cons]
    omega
def PutBPost (l : List I) (w : World) (e : Ending) (w' : World) : Prop :=
  ∃ v, e = .returned (.tuple #[v, .int .i64 (codeZ l)]) ∧ Row w' w.heap.size v (if codeZ l = 0 then bodyL l else []) ∧ Below w.heap.size w w'
theorem putB_no {l : List I} {c : Int} {w w' : World} (h : codeZ l = c) (hc : c ≠ 0) (hb : Below w.heap.size w w') : PutBPost l w (.returned (.tuple #[.slice none 0 0, .int .i64 c])) w' := by
  subst h
  exact ⟨_, rfl, by rw [if_neg hc]; exact Row.nil _ _, hb⟩
theorem putB_yes {l : List I} {v : Value} {w w' : World} (h : codeZ l = 0) (hr : Row w' w.heap.size v (bodyL l)) (hb : Below w.heap.size w w') : PutBPost l w (.returned (.tuple #[v, .int .i64 0])) w' :=
  ⟨v, by rw [h], by rw [if_pos h]; exact hr, hb⟩
set_option maxHeartbeats 1000000 in
theorem putBody_any {w : World} {A : Option Addr} {c : Nat} {l : List I} (hT : Tabs w) (hl : Ins w A l) (hn : l.length ≤ 60) (hok : ∀ i ∈ l, i.Ok ∧ i.l.length ≤ 100) :
    Calls Tryd.prog 37 #[.slice A l.length c] w (PutBPost l w) := by
  have HL := Lib.hid hl
  have HT := Lib.hid hT
  have HOK := Lib.hid hok
  have HSH := Lib.hid (shape_any (c := c) hT hl (by omega))
  obtain ⟨z, hz⟩ : ∃ z, z = shapeZ l := ⟨_, rfl⟩
  rw [← hz] at HSH
  obtain ⟨n, hnn⟩ : ∃ n, n = l.length := ⟨_, rfl⟩
  rw [← hnn] at HSH hn ⊢
  have HNN := Lib.hid hnn
  clear hT hl hok hnn
  by_cases hz0 : z = 0
  · have HC : Hid (codeZ l = errZ l) := by show _ = _; unfold codeZ; rw [← hz, if_pos hz0]
    subst hz0
    clear hz
    go_enter Tryd.func37, Tryd.ntmps37
    go_wp2_with (go_at_call 61; go_must ((with_reducible refine HSH.out.mono ?_); rintro e w1 ⟨rfl, hb⟩; have HB1 := Lib.hid hb; clear hb))
    go_loopw [5, 17] (fun v i wr => ∃ k : Nat, k ≤ n ∧ i = .int .i64 k ∧ Row wr w.heap.size v (bodyL (l.take k)) ∧ errZ l = errZ (l.drop k) ∧ Below w.heap.size w wr) (fun _ i _ => n - (intOf i).toNat)
    case atStart => exact ⟨0, Nat.zero_le _, rfl, Row.nil _ _, rfl, HB1.out⟩
    case round =>
      obtain ⟨k, hk, rfl, hr, he, hb⟩ := hrel
      have hz1 := hb.size
      by_cases hlt : k < n
      · obtain ⟨i, hi⟩ : ∃ i, l[k]? = some i := ⟨_, List.getElem?_eq_getElem (by rw [← HNN.out]; exact hlt)⟩
        obtain ⟨b, off, B, cc, rfl, hbl, ⟨k0, k1, k2, k3⟩, hlab⟩ := HL.out k i hi
        have m0 := (hb.cell (p := ⟨b, off + k * 4, none⟩) hbl).trans k0
        have m1 := (hb.cell (p := ⟨b, off + k * 4 + 1, none⟩) hbl).trans k1
        have m2 := (hb.cell (p := ⟨b, off + k * 4 + 2, none⟩) hbl).trans k2
        have m3 := (hb.cell (p := ⟨b, off + k * 4 + 3, none⟩) hbl).trans k3
        obtain ⟨hok, hll⟩ := HOK.out i (List.mem_of_getElem? hi)
        have HB := Lib.hid (hb.alloc hz1 (.cells (insC i B cc) 37))
        have HR := Lib.hid (hr.alloc (.cells (insC i B cc) 37))
        have HPU := Lib.hid (put_any i B cc (wr.alloc (.cells (insC i B cc) 37)) hok (HT.out.below HB.out) (hlab.below HB.out) (by omega))
        have hlen : (bodyL (l.take k)).length ≤ 66000 := by
          have h1 := bodyL_len (l.take k) (fun j hj => HOK.out j (List.mem_of_mem_take hj))
          have h2 : (l.take k).length ≤ k := by rw [List.length_take]; omega
          omega
        have hpl := putL_len hok hll
        have hs1 : w.heap.size ≤ (wr.alloc (.cells (insC i B cc) 37)).heap.size := by rw [size_box]; omega
        rw [errZ_drop hi] at he
        have HSN := Lib.hid (bodyL_snoc hi)
        by_cases hri : rightZ i = 0
        · rw [if_neg (by omega)] at he
          have HE := Lib.hid he
          have HP2 := Lib.hid (show Calls Tryd.prog 62 #[insV i B cc] (wr.alloc (.cells (insC i B cc) 37)) fun e w' => ∃ v, e = .returned (.tuple #[v, .int .i64 0]) ∧ Row w' (wr.alloc (.cells (insC i B cc) 37)).heap.size v (putL i) ∧ Below (wr.alloc (.cells (insC i B cc) 37)).heap.size (wr.alloc (.cells (insC i B cc) 37)) w' from HPU.out.mono fun e w' ⟨v, h1, h2, h3⟩ => ⟨v, by rw [hri] at h1; exact h1, by rw [if_pos hri] at h2; exact h2, h3⟩)
          obtain ⟨y, hy⟩ : ∃ y, y = putL i := ⟨_, rfl⟩
          rw [← hy] at HP2 hpl HSN
          clear hr he hb k0 k1 k2 k3 hi hlab hok HPU hri hy
          go_wp2_with (first
            | (at_builtin; (refine row_any rfl _ _ rfl w.heap.size _ (bodyL (l.take k)) rfl HR2.out A2 y.length c2 _ y rfl rfl HL2.out HA2.out (by omega) hs2 ?_; intro v3 w3 hr3 hb3; have HR3 := Lib.hid hr3; have HB3 := Lib.hid hb3; clear hr3 hb3))
            | (go_at_call 62; go_must ((with_reducible refine HP2.out.mono ?_); intro e w2 hq; obtain ⟨v2, rfl, hr2, hb2⟩ := hq; obtain ⟨A2, c2, rfl, hl2, hA2, _⟩ := hr2.liesN; have HR2 := Lib.hid (HR.out.later hb2); have HB2 := Lib.hid (HB.out.trans (hb2.mono hs1)); have HL2 := Lib.hid hl2; have HA2 := Lib.hid hA2; have hs2 : w.heap.size ≤ w2.heap.size := Nat.le_trans hs1 hb2.size; clear hr2 hb2 hl2 hA2)))
          go_roundw
          case rel => exact ⟨k + 1, by omega, by go_num, by rw [HSN.out]; exact HR3.out, HE.out, HB2.out.trans HB3.out⟩
          case measure => simp [intOf]; omega
        · rw [if_pos hri] at he
          have HE := Lib.hid (show codeZ l = rightZ i from HC.out.trans he)
          have HZN := Lib.hid hri
          have hzb : (rightZ i != 0) = true := by simpa using hri
          have HP2 := Lib.hid (show Calls Tryd.prog 62 #[insV i B cc] (wr.alloc (.cells (insC i B cc) 37)) fun e w' => ∃ v, e = .returned (.tuple #[v, .int .i64 (rightZ i)]) ∧ Below (wr.alloc (.cells (insC i B cc) 37)).heap.size (wr.alloc (.cells (insC i B cc) 37)) w' from HPU.out.mono fun e w' ⟨v, h1, h2, h3⟩ => ⟨v, h1, h3⟩)
          obtain ⟨zi, hzi⟩ : ∃ zi, zi = rightZ i := ⟨_, rfl⟩
          rw [← hzi] at HE HZN hzb HP2
          clear hr he hb k0 k1 k2 k3 hi hlab hok HPU hri hzi
          go_wp2_with (go_at_call 62; go_must ((with_reducible refine HP2.out.mono ?_); intro e w2 hq; obtain ⟨v2, rfl, hb2⟩ := hq; have HB2 := Lib.hid (HB.out.trans (hb2.mono hs1)); clear hb2))
          go_ret2
          exact putB_no HE.out HZN.out HB2.out
      · obtain rfl : k = n := by omega
        have HE : Hid (codeZ l = 0) := by
          show _ = _
          rw [HC.out, he, List.drop_eq_nil_of_le (by rw [← HNN.out]; exact Nat.le_refl _)]
          rfl
        rw [List.take_of_length_le (by rw [← HNN.out]; exact Nat.le_refl _)] at hr
        have HR := Lib.hid hr
        have HB := Lib.hid hb
        clear hr he hb
        go_wp2
        go_ret2
        exact putB_yes HE.out HR.out HB.out
  · have HC := Lib.hid (show codeZ l = z by unfold codeZ; rw [← hz, if_neg hz0])
    have HZN := Lib.hid hz0
    have hzb : (z != 0) = true := by simpa using hz0
    clear hz hz0
    go_enter Tryd.func37, Tryd.ntmps37
    go_wp2_with (go_at_call 61; go_must ((with_reducible refine HSH.out.mono ?_); rintro e w1 ⟨rfl, hb⟩; have HB1 := Lib.hid hb; clear hb))
    go_ret2
    exact putB_no HC.out HZN.out HB1.out
/-- Both lists, wherever they lie. -/
def Two (A B : Option Addr) (l : List I) (W : World) : Prop := Ins W A l ∧ Ins W B l
theorem Two.on {A B : Option Addr} {l : List I} {W W' : World} (h : Two A B l W) (hb : Below W.heap.size W W') : Two A B l W' := ⟨h.1.below hb, h.2.below hb⟩
/-- .. and what they read as at k. -/
abbrev TwoAt (b1 o1 b2 o2 : Nat) (B1 B2 : Option Addr) (c1 c2 : Nat) (i : I) (k : Nat) (W : World) : Prop :=
  (W.cell? ⟨b1, o1 + k * 4, none⟩ = some (.int .u8 i.op.toNat) ∧ W.cell? ⟨b1, o1 + k * 4 + 1, none⟩ = some (.int .u64 i.a) ∧ W.cell? ⟨b1, o1 + k * 4 + 2, none⟩ = some (.int .u64 i.b) ∧ W.cell? ⟨b1, o1 + k * 4 + 3, none⟩ = some (.slice B1 i.l.length c1)) ∧
  (W.cell? ⟨b2, o2 + k * 4, none⟩ = some (.int .u8 i.op.toNat) ∧ W.cell? ⟨b2, o2 + k * 4 + 1, none⟩ = some (.int .u64 i.a) ∧ W.cell? ⟨b2, o2 + k * 4 + 2, none⟩ = some (.int .u64 i.b) ∧ W.cell? ⟨b2, o2 + k * 4 + 3, none⟩ = some (.slice B2 i.l.length c2))
end Go.Proofs.YtebgmfjgapmpfabDoor

/- The reference's Shape, Right, Types, Same of bodies. -/
namespace Go.Proofs.YtebgmfjgapmpfabDoor
open Go.RowKit
set_option linter.unusedVariables false
set_option maxRecDepth 100000

/-- The first group's type that may not be. -/
def tyGo : List Lo → Int
  | [] => 0
  | x :: r => if valueZ x.t.toNat ≠ 0 then valueZ x.t.toNat else tyGo r
theorem ty_drop {l : List Lo} {k : Nat} {x : Lo} (h : l[k]? = some x) : tyGo (l.drop k) = if valueZ x.t.toNat ≠ 0 then valueZ x.t.toNat else tyGo (l.drop (k + 1)) := by
  rw [lo_drop h]
  rfl
/-- May it be, but for its instructions? May it be? -/
def bshZ (x : Bd) : Int := if locGo 0 x.ls < 0 then 23 else if tyGo x.ls ≠ 0 then tyGo x.ls else shapeZ x.b
def brZ (x : Bd) : Int := if bshZ x ≠ 0 then bshZ x else errZ x.b
/-- Two groups that are alike. -/
theorem neq_lo (x : Lo) (W : World) : (binOp BinOp.neq 63 (.agg #[.int .u32 x.n.toNat, .int .u8 x.t.toNat]) (.agg #[.int .u32 x.n.toNat, .int .u8 x.t.toNat])).run Tryd.prog W = .ok (.bool false) W := by
  go_simp
end Go.Proofs.YtebgmfjgapmpfabDoor

/- bodies.Count, bodies.Right. -/
namespace Go.Proofs.YtebgmfjgapmpfabDoor
open Go.RowKit
set_option linter.unusedVariables false
set_option maxRecDepth 100000

/-- How many; the error. -/
def cntN (l : List Lo) : Int := if locGo 0 l < 0 then 0 else locGo 0 l
def cntE (l : List Lo) : Int := if locGo 0 l < 0 then 23 else 0
theorem cnt_no {l : List Lo} (h : locGo 0 l = -1) : cntN l = 0 ∧ cntE l = 23 := by unfold cntN cntE; rw [h]; decide
theorem cnt_yes {l : List Lo} {m : Nat} (h : locGo 0 l = (m : Int)) : cntN l = m ∧ cntE l = 0 := by
  unfold cntN cntE
  rw [h, if_neg (by omega), if_neg (by omega)]
  exact ⟨rfl, rfl⟩
theorem ret_i {a c : Int} (h : a = c) : Ending.returned (.int .i64 a) = .returned (.int .i64 c) := by rw [h]
theorem ret_ints {a b c d : Int} (h : a = c) (h2 : b = d) : Ending.returned (.tuple #[.int .i64 a, .int .i64 b]) = .returned (.tuple #[.int .i64 c, .int .i64 d]) := by rw [h, h2]

set_option maxHeartbeats 4000000 in
theorem cnt_any {w : World} {A : Option Addr} {c : Nat} {l : List Lo} (hl : Los w A l) (hn : (l.length : Int) ≤ 9223372036854775807) :
    Calls Tryd.prog 6 #[.slice A l.length c] w fun e w' => e = .returned (.tuple #[.int .i64 (cntN l), .int .i64 (cntE l)]) ∧ Below w.heap.size w w' := by
  have HL := Lib.hid hl
  obtain ⟨N, hN⟩ : ∃ N, N = cntN l := ⟨_, rfl⟩
  obtain ⟨E, hE⟩ : ∃ E, E = cntE l := ⟨_, rfl⟩
  have HNO := Lib.hid (fun h : locGo 0 l = -1 => show N = 0 ∧ E = 23 by rw [hN, hE]; exact cnt_no h)
  have HYES := Lib.hid (fun (m : Nat) (h : locGo 0 l = (m : Int)) => show N = m ∧ E = 0 by rw [hN, hE]; exact cnt_yes h)
  rw [← hN, ← hE]
  obtain ⟨R, hR⟩ : ∃ R, R = locGo 0 l := ⟨_, rfl⟩
  rw [← hR] at HNO HYES
  have HR := Lib.hid hR
  obtain ⟨n, hnn⟩ : ∃ n, n = l.length := ⟨_, rfl⟩
  have HNN := Lib.hid hnn
  rw [← hnn] at hn ⊢
  clear hl hnn hR hN hE
  go_enter Tryd.func6, Tryd.ntmps6
  go_wp2
  go_loopw [4, 9] (fun s i wr => ∃ (k m : Nat), k ≤ n ∧ i = .int .i64 k ∧ s = .int .i64 m ∧ m ≤ 1000 ∧ locGo m (l.drop k) = R ∧ Below w.heap.size w wr) (fun _ i _ => n - (intOf i).toNat)
  case atStart => exact ⟨0, 0, Nat.zero_le _, rfl, rfl, by omega, HR.out.symm, Below.refl _ _⟩
  case round =>
    obtain ⟨k, m, hk, rfl, rfl, hm, hg, hb⟩ := hrel
    have hz1 := hb.size
    by_cases hlt : k < n
    · obtain ⟨x, hx⟩ : ∃ x, l[k]? = some x := ⟨_, List.getElem?_eq_getElem (by rw [← HNN.out]; exact hlt)⟩
      obtain ⟨b, off, rfl, hbl, c0, c1⟩ := (HL.out.below hb) k x hx
      rw [lo_drop hx] at hg
      unfold locGo at hg
      have HBA := Lib.hid (hb.alloc hz1 (.cells #[.int .u32 x.n.toNat, .int .u8 x.t.toNat] 63))
      have hxn := x.n.toNat_lt
      obtain ⟨v, hv⟩ : ∃ v, v = x.n.toNat := ⟨_, rfl⟩
      rw [← hv] at hg c0 hxn HBA
      have w0 : IntKind.i64.wrap (1000 - (m : Int)) = 1000 - (m : Int) := by rw [IntKind.wrap_i64]; omega
      have w1 : IntKind.u32.wrap (1000 - (m : Int)) = 1000 - (m : Int) := by simp [IntKind.wrap, IntKind.bits, IntKind.signed]; omega
      by_cases h1 : 1000 < m + v
      · rw [if_pos (.inr h1)] at hg
        have d1 : decide ((1000 : Int) - (m : Int) < (v : Int)) = true := decide_eq_true (by omega)
        have HG := Lib.hid (HNO.out hg.symm)
        clear h1 hv hx hb hg
        go_wp2
        go_ret2
        obtain ⟨e1, e2⟩ := HG.out
        exact ⟨ret_ints e1.symm e2.symm, HBA.out⟩
      · rw [if_neg (by omega)] at hg
        have d1 : decide ((1000 : Int) - (m : Int) < (v : Int)) = false := decide_eq_false (by omega)
        have wv : IntKind.i64.wrap (v : Int) = v := by rw [IntKind.wrap_i64]; omega
        have ws : IntKind.i64.wrap ((m : Int) + (v : Int)) = (m : Int) + (v : Int) := by rw [IntKind.wrap_i64]; omega
        have HG := Lib.hid hg
        clear hv hx hb hg
        go_wp2
        go_roundw
        case rel => exact ⟨k + 1, m + v, by omega, by go_num, by rw [Int.natCast_add], by omega, HG.out, HBA.out⟩
        case measure => simp [intOf]; omega
    · have hkn : k = l.length := by rw [← HNN.out]; omega
      rw [hkn, List.drop_length] at hg
      have HG := Lib.hid (HYES.out m (show R = (m : Int) from hg.symm))
      have HB := Lib.hid hb
      clear hg hkn hb
      go_wp2
      go_ret2
      obtain ⟨e1, e2⟩ := HG.out
      exact ⟨ret_ints e1.symm e2.symm, HB.out⟩
set_option maxHeartbeats 4000000 in
theorem bright_any {w : World} {x : Bd} {L : Option Addr} {l : Nat} {B : Option Addr} {c : Nat} (hT : Tabs w) (hl : Los w L x.ls) (hi : Ins w B x.b) (hn : x.ls.length ≤ 10000) (hb : x.b.length ≤ 20000) :
    Calls Tryd.prog 36 #[bdV x L l B c] w (IntPost (bshZ x) w) := by
  have h0 := bxBd_start w x L l B c
  have H0 := Lib.hid h0
  have hl1 := hl.below (below_box w (.cells (bdC x L l B c) 60))
  have HL := Lib.hid hl
  have HLo := Lib.hid (cnt_any (c := l) hl1 (by omega))
  have HS := Lib.hid (fun W (h : Below w.heap.size w W) => shape_any (c := c) (hT.below h) (hi.below h) hb)
  have HV := Lib.hid (fun W (t : UInt8) => value_any (t.toNat : Int) W)
  obtain ⟨c0, c1⟩ := h0.2
  obtain ⟨R, hR⟩ : ∃ R, R = bshZ x := ⟨_, rfl⟩
  have d10 : decide ((10000 : Int) < (x.ls.length : Int)) = false := decide_eq_false (by omega)
  rw [← hR]
  clear hT hl hi hl1 h0
  unfold bshZ at hR
  by_cases hz : locGo 0 x.ls < 0
  · rw [if_pos hz] at hR
    have e := locGo_ge _ _ hz
    rw [(cnt_no e).1, (cnt_no e).2] at HLo
    subst hR
    clear hz e
    go_enter Tryd.func36, Tryd.ntmps36
    go_wp2_with (go_at_call 6; go_must ((with_reducible refine HLo.out.mono ?_); rintro e w1 ⟨rfl, hb⟩; have H1 := Lib.hid (bxBd_on H0.out hb); clear hb))
    go_ret
    exact ⟨rfl, bxBd_bel H1.out⟩
  · rw [if_neg hz] at hR
    obtain ⟨q, hq⟩ : ∃ q : Nat, locGo 0 x.ls = (q : Int) := ⟨(locGo 0 x.ls).toNat, by omega⟩
    rw [(cnt_yes hq).1, (cnt_yes hq).2] at HLo
    have HR := Lib.hid hR
    clear hR hz hq
    go_enter Tryd.func36, Tryd.ntmps36
    go_wp2_with (go_at_call 6; go_must ((with_reducible refine HLo.out.mono ?_); rintro e w1 ⟨rfl, hb⟩; have H1 := Lib.hid (bxBd_on H0.out hb); obtain ⟨i0, i1⟩ := H1.out.2; clear hb c0 c1))
    go_loopw [24] (fun i wr => ∃ (k : Nat), k ≤ x.ls.length ∧ i = .int .i64 k ∧ tyGo (x.ls.drop k) = tyGo x.ls ∧ BxBd w w.heap.size x L l B c wr) (fun i _ => x.ls.length - (intOf i).toNat)
    case atStart => exact ⟨0, Nat.zero_le _, rfl, rfl, H1.out⟩
    case round =>
      obtain ⟨k, hk, rfl, hg, hbx⟩ := hrel
      have hbel := bxBd_bel hbx
      have HB := Lib.hid hbx
      obtain ⟨j0, j1⟩ := hbx.2
      by_cases hlt : k < x.ls.length
      · obtain ⟨y, hy⟩ : ∃ y, x.ls[k]? = some y := ⟨_, List.getElem?_eq_getElem hlt⟩
        obtain ⟨b, off, rfl, hbl, k0, k1⟩ := (HL.out.below hbel) k y hy
        rw [ty_drop hy] at hg
        have HBA := Lib.hid (bxBd_on hbx (below_box wr (.cells #[.int .u32 y.n.toNat, .int .u8 y.t.toNat] 63)))
        have HVy := Lib.hid (fun W => HV.out W y.t)
        obtain ⟨v, hv⟩ : ∃ v, v = valueZ y.t.toNat := ⟨_, rfl⟩
        rw [← hv] at hg HVy
        clear hy hv hbel hbx
        by_cases hz : v = 0
        · subst hz
          have HG := Lib.hid (show tyGo (x.ls.drop (k + 1)) = tyGo x.ls by simpa using hg)
          clear hg
          go_wp2_with (go_at_call 60; go_must ((with_reducible refine (HVy.out _).mono ?_); rintro e w' ⟨rfl, rfl⟩))
          go_roundw
          case rel => exact ⟨k + 1, by omega, by go_num, HG.out, HBA.out⟩
          case measure => simp [intOf]; omega
        · have dz : (v != 0) = true := zb_of (by simpa using hz)
          rw [if_pos hz] at hg
          have HG := Lib.hid (show R = v by rw [HR.out, ← hg, if_pos hz])
          clear hg hz
          go_wp2_with (go_at_call 60; go_must ((with_reducible refine (HVy.out _).mono ?_); rintro e w' ⟨rfl, rfl⟩))
          go_ret
          exact ⟨ret_i HG.out.symm, bxBd_bel HBA.out⟩
      · have hkn : k = x.ls.length := by omega
        rw [hkn, List.drop_length] at hg
        have HG := Lib.hid (show R = shapeZ x.b by rw [HR.out, ← hg]; rfl)
        have HSW := Lib.hid (HS.out _ hbel)
        clear hg hkn hbel hbx
        go_wp2_with (go_at_call 61; go_must ((with_reducible refine HSW.out.mono ?_); rintro e w2 ⟨rfl, hb⟩; have H2 := Lib.hid (bxBd_on HB.out hb); clear hb))
        go_ret
        exact ⟨ret_i HG.out.symm, bxBd_bel H2.out⟩
end Go.Proofs.YtebgmfjgapmpfabDoor
