/- slices.Equal of labels; instr.Same; the reference's Same. -/
import Derived.Test.YtjjhgmmkapeifaaDoorKa09
import Derived.RegionTactic
import Derived.ProofKit
import Derived.OpenShut
import Derived.ShutString
import Derived.ChangeOld
import Derived.Deep.Slices
import Derived.Lib.SmallJoins
import Derived.Test.YtjjhgmmkapeifaaDoorKa02
import Derived.Test.YtjjhgmmkapeifaaDoorTie
import Derived.Lib.LaidIn
import Derived.Lib.LaidU8
import Derived.LaidMore
import Derived.MakeChecks
import Derived.Stop.Joined
namespace Go.Proofs.YtjjhgmmkapeifaaDoor
open Go.RowKit
set_option linter.unusedVariables false
set_option maxRecDepth 100000

def LiesL (w : World) (A : Option Addr) (l : List Int) : Prop := Lies w w.heap.size A (cells32 l)
theorem LiesL.below {w w' : World} {A : Option Addr} {l : List Int} (h : LiesL w A l) (hb : Below w.heap.size w w') : LiesL w' A l := (Lies.below h hb (Nat.le_refl _)).more hb.size
theorem LiesL.at {w : World} {A : Option Addr} {l : List Int} (h : LiesL w A l) {i : Nat} {d : Int} (hd : l[i]? = some d) : ∃ b off, A = some ⟨b, off, none⟩ ∧ b < w.heap.size ∧ w.cell? ⟨b, off + i, none⟩ = some (.int .u32 d) := by
  obtain ⟨b, off, e, hb, hc⟩ := h i _ (cells32_get hd)
  exact ⟨b, off, e, hb, hc⟩
/-- The first k of two lists are the same. -/
def Eqs (a b : List Int) (k : Nat) : Prop := ∀ j, j < k → a[j]? = b[j]?
theorem Eqs.all {a b : List Int} {n : Nat} (h : Eqs a b n) (ha : a.length = n) (hb : b.length = n) : a = b := by
  apply List.ext_getElem?
  intro j
  rcases Nat.lt_or_ge j n with g | g
  · exact h j g
  · rw [List.getElem?_eq_none (by omega), List.getElem?_eq_none (by omega)]
def BoolPost (p : Bool) (w : World) (e : Ending) (w' : World) : Prop := e = .returned (.bool p) ∧ Below w.heap.size w w'
/-- Are two instructions the same? -/
def sameZ (i k : I) : Bool := decide (i.op = k.op) && decide (i.a = k.a) && decide (i.b = k.b) && decide (i.l = k.l)
theorem below_twoI (w : World) (i k : I) (A B : Option Addr) (c d : Nat) : Below w.heap.size w ((w.alloc (.cells (insC i A c) 25)).alloc (.cells (insC k B d) 25)) := (below_box w _).alloc (by simp) _
theorem same_no {i k : I} {w W : World} (h : ¬ (i.op = k.op ∧ i.a = k.a ∧ i.b = k.b ∧ i.l = k.l)) (hb : Below w.heap.size w W) : BoolPost (sameZ i k) w (.returned (.bool false)) W := by
  refine ⟨ret_bool ?_, hb⟩
  unfold sameZ
  by_cases h1 : i.op = k.op
  · by_cases h2 : i.a = k.a
    · by_cases h3 : i.b = k.b
      · have h4 : ¬ i.l = k.l := fun e => h ⟨h1, h2, h3, e⟩
        simp [h4]
      · simp [h3]
    · simp [h2]
  · simp [h1]
theorem op_ne {a b : UInt8} (h : a ≠ b) : ((a.toNat : Int) == b.toNat) = false := by
  simp
  intro e
  exact h (UInt8.toNat_inj.1 (by omega))
theorem op_eq (a : UInt8) : ((a.toNat : Int) == a.toNat) = true := by simp
set_option maxHeartbeats 2000000 in
theorem refSame_any {w : World} {A B : Option Addr} {c d : Nat} {i k : I} (ha : LiesL w A i.l) (hb : LiesL w B k.l) (na : i.l.length ≤ 100000) (nb : k.l.length ≤ 100000) :
    Calls Tryd.prog 11 #[insV i A c, insV k B d] w (BoolPost (sameZ i k) w) := by
  have HB2 := Lib.hid (below_twoI w i k A B c d)
  have HA := Lib.hid (ha.below HB2.out)
  have HB := Lib.hid (hb.below HB2.out)
  clear ha hb
  by_cases h1 : i.op = k.op
  · have d1 : ((i.op.toNat : Int) != k.op.toNat) = false := by rw [h1]; simp
    by_cases h2 : i.a = k.a
    · have d2 : (i.a != k.a) = false := by simpa using h2
      by_cases h3 : i.b = k.b
      · have d3 : (i.b != k.b) = false := by simpa using h3
        have HE := Lib.hid (show sameZ i k = decide (i.l = k.l) by unfold sameZ; simp [h1, h2, h3])
        by_cases h4 : i.l.length = k.l.length
        · have d4 : ((i.l.length : Int) != k.l.length) = false := by rw [h4]; simp
          have HL := Lib.hid h4
          clear h1 h2 h3 h4
          go_enter Tryd.func11, Tryd.ntmps11
          go_wp2
          generalize hW : ((w.alloc (.cells (insC i A c) 25)).alloc (.cells (insC k B d) 25)) = W at *
          have x3 : W.cell? ⟨w.heap.size, 3, none⟩ = some (.slice A i.l.length c) := by rw [← hW]; exact ((Whole.made w 25 (insC i A c)).alloc _).cell 3
          have y3 : W.cell? ⟨w.heap.size + 1, 3, none⟩ = some (.slice B k.l.length d) := by
            rw [← hW]
            have := Whole.made (w.alloc (.cells (insC i A c) 25)) 25 (insC k B d)
            rw [size_box] at this
            exact this.cell 3
          clear hW
          go_loopw [5] (fun s wr => ∃ j q : Nat, j ≤ i.l.length ∧ s = .int .i64 j ∧ wr = W.drewN q ∧ Eqs i.l k.l j) (fun s _ => i.l.length - (intOf s).toNat)
          case atStart => exact ⟨0, 0, Nat.zero_le _, rfl, rfl, fun j hj => absurd hj (Nat.not_lt_zero _)⟩
          case round =>
            obtain ⟨j, q, hj, rfl, rfl, heq⟩ := hrel
            by_cases hlt : j < i.l.length
            · obtain ⟨x, hx⟩ : ∃ x, i.l[j]? = some x := ⟨_, List.getElem?_eq_getElem hlt⟩
              obtain ⟨y, hy⟩ : ∃ y, k.l[j]? = some y := ⟨_, List.getElem?_eq_getElem (by rw [← HL.out]; exact hlt)⟩
              obtain ⟨b1, o1, rfl, _, g1⟩ := HA.out.at hx
              obtain ⟨b2, o2, rfl, _, g2⟩ := HB.out.at hy
              have hlt2 : j < k.l.length := by rw [← HL.out]; exact hlt
              have HE2 := Lib.hid heq
              have HX := Lib.hid hx
              have HY := Lib.hid hy
              clear heq hx hy
              by_cases hxy : x = y
              · have HXY := Lib.hid hxy
                have hc : (x != y) = false := by simpa using hxy
                clear hxy
                go_wp2_with fail
                go_region
                go_wp2
                go_roundw
                case measure => simp [intOf]; omega
                case rel =>
                  refine ⟨j + 1, q + 1, by omega, by go_num, rfl, fun u hu => ?_⟩
                  by_cases e : u = j
                  · subst e
                    rw [HX.out, HY.out, HXY.out]
                  · exact HE2.out u (by omega)
              · have HXY := Lib.hid hxy
                have hc : (x != y) = true := by simpa using hxy
                clear hxy
                go_wp2_with fail
                go_region
                go_wp2
                go_ret
                refine ⟨ret_bool ?_, below_drewN HB2.out _⟩
                have : ¬ i.l = k.l := fun e => HXY.out (by have h1 := HX.out; have h2 := HY.out; rw [e, h2] at h1; injection h1 with h1; exact h1.symm)
                rw [HE.out, decide_eq_false this]
            · have hjj : j = i.l.length := by omega
              subst hjj
              have hab : i.l = k.l := heq.all rfl HL.out.symm
              clear heq
              go_wp2
              go_ret
              exact ⟨ret_bool (by rw [HE.out, decide_eq_true hab]), below_drewN HB2.out _⟩
        · have d4 : ((i.l.length : Int) != k.l.length) = true := by simp; omega
          have HNO := Lib.hid (fun W hb => same_no (i := i) (k := k) (w := w) (W := W) (fun h => h4 (by rw [h.2.2.2])) hb)
          clear h1 h2 h3 h4
          go_enter Tryd.func11, Tryd.ntmps11
          go_wp2
          go_ret
          exact HNO.out _ HB2.out
      · have d3 : (i.b != k.b) = true := by simpa using h3
        have HNO := Lib.hid (fun W hb => same_no (i := i) (k := k) (w := w) (W := W) (fun h => h3 h.2.2.1) hb)
        clear h1 h2 h3
        go_enter Tryd.func11, Tryd.ntmps11
        go_wp2
        go_ret
        exact HNO.out _ HB2.out
    · have d2 : (i.a != k.a) = true := by simpa using h2
      have HNO := Lib.hid (fun W hb => same_no (i := i) (k := k) (w := w) (W := W) (fun h => h2 h.2.1) hb)
      clear h1 h2
      go_enter Tryd.func11, Tryd.ntmps11
      go_wp2
      go_ret
      exact HNO.out _ HB2.out
  · have d1 : ((i.op.toNat : Int) != k.op.toNat) = true := by have := op_ne h1; simp at this ⊢; exact this
    have HNO := Lib.hid (fun W hb => same_no (i := i) (k := k) (w := w) (W := W) (fun h => h1 h.1) hb)
    clear h1
    go_enter Tryd.func11, Tryd.ntmps11
    go_wp2
    go_ret
    exact HNO.out _ HB2.out
end Go.Proofs.YtjjhgmmkapeifaaDoor

/- The walk of ConstsPuts. -/
namespace Go.Proofs.YtjjhgmmkapeifaaDoor
open Go.RowKit
set_option linter.unusedVariables false
set_option maxRecDepth 100000

/-- What the laws keep of an instruction: its box, its labels; the tables. -/
structure CSt (w : World) (i : I) (A : Option Addr) (c : Nat) (W : World) : Prop where
  tb : Tabs W
  box : BoxI w W i A c
  li : LiesL W A i.l
section
variable {w W W' : World} {i : I} {A : Option Addr} {c : Nat} {v : Value} {xs : List UInt8}
theorem CSt.on (h : CSt w i A c W) (hb : Below W.heap.size W W') : CSt w i A c W' := ⟨h.tb.below hb, h.box.on hb, h.li.below hb⟩
theorem CSt.start (hT : Tabs w) (hi : LiesL w A i.l) : CSt w i A c (w.alloc (.cells (insC i A c) 25)) :=
  ⟨hT.below (below_box _ _), BoxI.start w i A c, hi.below (below_box _ _)⟩
theorem CSt.bel (h : CSt w i A c W) : Below w.heap.size w W := h.box.2
/-- .. and bytes that were made. -/
structure CLb (w : World) (i : I) (A : Option Addr) (c : Nat) (v : Value) (xs : List UInt8) (W : World) : Prop where
  a : CSt w i A c W
  r : Row W w.heap.size v xs
theorem CLb.on (h : CLb w i A c v xs W) (hb : Below W.heap.size W W') : CLb w i A c v xs W' := ⟨h.a.on hb, h.r.later hb⟩
abbrev Five (w : World) (i : I) (A : Option Addr) (c : Nat) (Ab : Option Addr) (cb : Nat) (xs : List UInt8) (W : World) : Prop :=
  (W.cell? ⟨w.heap.size, 0, none⟩ = some (.int .u8 i.op.toNat) ∧ W.cell? ⟨w.heap.size, 1, none⟩ = some (.int .u64 i.a) ∧ W.cell? ⟨w.heap.size, 2, none⟩ = some (.int .u64 i.b) ∧ W.cell? ⟨w.heap.size, 3, none⟩ = some (.slice A i.l.length c)) ∧
  (convert 29 9 (.slice Ab xs.length cb)).run Tryd.prog W = .ok (.string (S xs)) W
theorem CLb.five {Ab : Option Addr} {cb : Nat} (h : CLb w i A c (.slice Ab xs.length cb) xs W) : CLb w i A c (.slice Ab xs.length cb) xs W ∧ Five w i A c Ab cb xs W := by
  obtain ⟨A', c', e, hc⟩ := h.r.str
  injection e with e1 e2 e3
  subst e1; subst e3
  exact ⟨h, ⟨h.a.box.c0, h.a.box.c1, h.a.box.c2, h.a.box.c3⟩, hc 9 Tryd.underlying9⟩
end
theorem same_self (i : I) : sameZ i i = true := by unfold sameZ; simp
theorem gIns_same (n : Int) (w : World) : Calls Tryd.prog 11 #[.agg #[.int .u8 35, .int .u64 n, .int .u64 0, .slice none 0 0], .agg #[.int .u8 35, .int .u64 n, .int .u64 0, .slice none 0 0]] w (BoolPost true w) := by
  have := refSame_any (w := w) (A := none) (B := none) (c := 0) (d := 0) (i := gIns n) (k := gIns n) (fun j v hv => by simp [cells32] at hv) (fun j v hv => by simp [cells32] at hv) (by simp) (by simp)
  rw [same_self] at this
  exact this

set_option maxHeartbeats 3000000 in
theorem lawCP {w : World} {i : I} {A : Option Addr} {c : Nat} {n : Int} (hT : Tabs w) (oi : i.Ok) (hi : LiesL w A i.l) (ni : (i.l.length : Int) ≤ 9223372036854775807) (n0 : 0 ≤ n) (n1 : n ≤ 4294967295) :
    Calls Tryd.prog 3 #[insV i A c, .int .u32 n] w (BoolPost true w) := by
  have h0 : CSt w i A c (w.alloc (.cells (insC i A c) 25)) := .start hT hi
  have HAW := Lib.hid (cawake_any _ h0.tb)
  have H0 := Lib.hid h0
  clear h0 hT hi
  by_cases g1 : 200 < i.l.length
  · have t1 : decide (200 < (i.l.length : Int)) = true := decide_eq_true (by omega)
    go_enter Tryd.func3, Tryd.ntmps3
    go_wp2_with (go_at_call 6; go_must ((with_reducible refine HAW.out.mono ?_); rintro e w1 ⟨rfl, hb⟩; have H1 := Lib.hid (H0.out.on hb); have c3 := H1.out.box.c3; clear hb))
    go_ret
    exact ⟨rfl, H1.out.bel⟩
  have t1 : decide (200 < (i.l.length : Int)) = false := decide_eq_false (by omega)
  have hw : IntKind.u64.wrap n = n := by simp [IntKind.wrap, IntKind.bits, IntKind.signed]; omega
  have HRR := Lib.hid (fun W => rcright_any i A c W oi ni)
  have HCR := Lib.hid (fun W (h : Tabs W) => cright_any i A c W oi h ni)
  have HGL := Lib.hid (fun W => cglobal_any n W n0 n1)
  have HSG := Lib.hid (fun W => gIns_same n W)
  obtain ⟨xs, hxs⟩ : ∃ xs, xs = (if crightZ i = 0 then putL i ++ [11] else []) := ⟨_, rfl⟩
  have HPU := Lib.hid (fun W (h : Tabs W) (hl : LiesL W A i.l) => show Calls Tryd.prog 8 #[insV i A c] W fun e w' => ∃ v, e = .returned (.tuple #[v, .int .i64 (crightZ i)]) ∧ Row w' W.heap.size v xs ∧ Below W.heap.size W w' from
    (cput_any i A c W oi h hl ni).mono fun e w' ⟨v, h1, h2, h3⟩ => ⟨v, h1, by rw [hxs]; exact h2, h3⟩)
  have HZ0 := Lib.hid (fun (h : crightZ i = 0) => show ∀ W, LiesL W A i.l → Calls Tryd.prog 12 #[insV i A c] W (StrPost xs W) from fun W hl => by
    have := rcput_any i A c W oi (cr_zero h).1 hl
    rw [hxs, if_pos h]
    exact this)
  have HZ1 := Lib.hid (fun (h : ¬ crightZ i = 0) => show xs.length = 0 by rw [hxs, if_neg h]; rfl)
  obtain ⟨z, hz⟩ : ∃ z, z = crightZ i := ⟨_, rfl⟩
  rw [← hz] at HRR HCR HPU HZ0 HZ1
  clear hz hxs g1 n0 n1 oi
  go_enter Tryd.func3, Tryd.ntmps3
  go_wp2_with (first
    | (go_at_call 6; go_must ((with_reducible refine HAW.out.mono ?_); rintro e w1 ⟨rfl, hb⟩; have H1 := Lib.hid (H0.out.on hb); have c0 := H1.out.box.c0; have c1 := H1.out.box.c1; have c2 := H1.out.box.c2; have c3 := H1.out.box.c3; clear hb))
    | (go_at_call 7; go_must ((with_reducible refine (HRR.out _).mono ?_); rintro e w2 ⟨rfl, hb⟩; clear c0 c1 c2 c3; have H2 := Lib.hid (H1.out.on hb); have c0 := H2.out.box.c0; have c1 := H2.out.box.c1; have c2 := H2.out.box.c2; have c3 := H2.out.box.c3; clear hb))
    | (go_at_call 8; go_must ((with_reducible refine (HPU.out _ H2.out.tb H2.out.li).mono ?_); intro e w3 hq; obtain ⟨v, rfl, hr, hb⟩ := hq; clear c0 c1 c2 c3; obtain ⟨Ab, cb, rfl, _, _⟩ := hr.liesN; have H3 := Lib.hid (show CLb w i A c (.slice Ab xs.length cb) xs w3 from ⟨H2.out.on hb, hr.mono H2.out.bel.size⟩); clear hb hr))
    | (go_at_call 9; go_must ((with_reducible refine (HGL.out _).mono ?_); rintro e w4 ⟨rfl, hb⟩; have H5 := Lib.hid ((H3.out.on hb).on (below_box w4 (.cells #[.int .u8 35, .int .u64 n, .int .u64 0, .slice none 0 0] 25))); have HX5 := Lib.hid (Whole.made w4 25 #[.int .u8 35, .int .u64 n, .int .u64 0, .slice none 0 0]); have c0 := H5.out.a.box.c0; have c1 := H5.out.a.box.c1; have c2 := H5.out.a.box.c2; have c3 := H5.out.a.box.c3; clear hb))
    | (go_at_call 10; go_must ((with_reducible refine (HCR.out _ H5.out.a.tb).mono ?_); rintro e w6 ⟨rfl, hb⟩; clear c0 c1 c2 c3; have H6 := Lib.hid (H5.out.on hb); have HX6 := Lib.hid (HX5.out.below hb); have x0 := HX6.out.cell 0; have x1 := HX6.out.cell 1; have x2 := HX6.out.cell 2; have x3 := HX6.out.cell 3; simp only [List.getElem?_toArray, List.getElem?_cons_zero, List.getElem?_cons_succ] at x0 x1 x2 x3; clear hb))
    | (go_at_call 11; go_must ((with_reducible refine (HSG.out _).mono ?_); rintro e w7 ⟨rfl, hb⟩; have H7 := Lib.hid (H6.out.on hb); clear hb x0 x1 x2 x3)))
  by_cases h0 : z = 0
  · have HRP := Lib.hid (HZ0.out h0)
    subst h0
    clear HZ0 HZ1 HPU HCR HRR
    refine wp_region_noPanic ?_
    refine wp_region_held_drew (S := fun W => CLb w i A c (.slice Ab xs.length cb) xs W ∧ Five w i A c Ab cb xs W) (by kernel_rfl) (CLb.five (H7.out.on (Below.refl _ _).drew)) (fun hHeld => ?_)
    (refine heldTake (i := 0) (oi := { dst := some 41, op := Op.move (Operand.tmp 5), type := 3, pos := "law.go:35", after := #[], guard := none }) (v := ?_) rfl (by kernel_rfl) (by kernel_rfl) (by kernel_rfl) (by assumption) ?_ ?_; rotate_left; focus (refine .inl ⟨by kernel_rfl, ?_⟩; intro w hSw; (try dsimp only at hSw); go_simp; (try with_reducible rfl)); (try simp only [Act.put, List.setIfInBounds_toArray, List.set_cons_zero, List.set_cons_succ]))
    (refine heldTake (i := 1) (oi := { dst := some 42, op := Op.binOp BinOp.neq 3 (Operand.tmp 41) (Operand.const (Value.int IntKind.i64 0)) 3, type := 4, pos := "law.go:35", after := #[{ on := 0, ground := Ground.data }], guard := none }) (v := ?_) rfl (by kernel_rfl) (by kernel_rfl) (by kernel_rfl) (by assumption) ?_ ?_; rotate_left; focus (refine .inl ⟨by kernel_rfl, ?_⟩; intro w hSw; (try dsimp only at hSw); go_simp; (try with_reducible rfl)); (try simp only [Act.put, List.setIfInBounds_toArray, List.set_cons_zero, List.set_cons_succ]))
    (refine heldTake (i := 2) (oi := { dst := some 43, op := Op.move (Operand.tmp 42), type := 4, pos := "law.go:35", after := #[{ on := 1, ground := Ground.data }], guard := none }) (v := ?_) rfl (by kernel_rfl) (by kernel_rfl) (by kernel_rfl) (by assumption) ?_ ?_; rotate_left; focus (refine .inl ⟨by kernel_rfl, ?_⟩; intro w hSw; (try dsimp only at hSw); go_simp; (try with_reducible rfl)); (try simp only [Act.put, List.setIfInBounds_toArray, List.set_cons_zero, List.set_cons_succ]))
    (refine heldTake (i := 3) (oi := { dst := some 44, op := Op.move (Operand.tmp 6), type := 29, pos := "law.go:35", after := #[{ on := 2, ground := Ground.guard }], guard := some (2, true) }) (v := undef) rfl (by kernel_rfl) (by kernel_rfl) (by kernel_rfl) (by assumption) (.inr ⟨by kernel_rfl, rfl⟩) ?_; (try simp only [Act.put, List.setIfInBounds_toArray, List.set_cons_zero, List.set_cons_succ]))
    (refine heldTake (i := 4) (oi := { dst := some 45, op := Op.call { callee := Callee.builtin Builtin.len, args := #[Operand.tmp 44], argTypes := #[29] }, type := 3, pos := "law.go:35", after := #[{ on := 3, ground := Ground.data }, { on := 2, ground := Ground.guard }], guard := some (2, true) }) (v := undef) rfl (by kernel_rfl) (by kernel_rfl) (by kernel_rfl) (by assumption) (.inr ⟨by kernel_rfl, rfl⟩) ?_; (try simp only [Act.put, List.setIfInBounds_toArray, List.set_cons_zero, List.set_cons_succ]))
    (refine heldTake (i := 5) (oi := { dst := some 46, op := Op.binOp BinOp.eql 3 (Operand.tmp 45) (Operand.const (Value.int IntKind.i64 0)) 3, type := 4, pos := "law.go:35", after := #[{ on := 4, ground := Ground.data }, { on := 2, ground := Ground.guard }], guard := some (2, true) }) (v := undef) rfl (by kernel_rfl) (by kernel_rfl) (by kernel_rfl) (by assumption) (.inr ⟨by kernel_rfl, rfl⟩) ?_; (try simp only [Act.put, List.setIfInBounds_toArray, List.set_cons_zero, List.set_cons_succ]))
    (refine heldTake (i := 6) (oi := { dst := some 47, op := Op.pick (Operand.tmp 43) (Operand.tmp 46) (Operand.const (Value.bool false)), type := 4, pos := "law.go:35", after := #[{ on := 2, ground := Ground.data }, { on := 5, ground := Ground.data }], guard := none }) (v := ?_) rfl (by kernel_rfl) (by kernel_rfl) (by kernel_rfl) (by assumption) ?_ ?_; rotate_left; focus (refine .inl ⟨by kernel_rfl, ?_⟩; intro w hSw; (try dsimp only at hSw); go_simp; (try with_reducible rfl)); (try simp only [Act.put, List.setIfInBounds_toArray, List.set_cons_zero, List.set_cons_succ]))
    (refine heldTake (i := 7) (oi := { dst := some 48, op := Op.move (Operand.tmp 47), type := 4, pos := "law.go:35", after := #[{ on := 6, ground := Ground.data }, { on := 2, ground := Ground.chain }], guard := none }) (v := ?_) rfl (by kernel_rfl) (by kernel_rfl) (by kernel_rfl) (by assumption) ?_ ?_; rotate_left; focus (refine .inl ⟨by kernel_rfl, ?_⟩; intro w hSw; (try dsimp only at hSw); go_simp; (try with_reducible rfl)); (try simp only [Act.put, List.setIfInBounds_toArray, List.set_cons_zero, List.set_cons_succ]))
    (refine heldTake (i := 8) (oi := { dst := some 49, op := Op.move (Operand.tmp 5), type := 3, pos := "law.go:35", after := #[{ on := 7, ground := Ground.guard }], guard := some (7, false) }) (v := ?_) rfl (by kernel_rfl) (by kernel_rfl) (by kernel_rfl) (by assumption) ?_ ?_; rotate_left; focus (refine .inl ⟨by kernel_rfl, ?_⟩; intro w hSw; (try dsimp only at hSw); go_simp; (try with_reducible rfl)); (try simp only [Act.put, List.setIfInBounds_toArray, List.set_cons_zero, List.set_cons_succ]))
    (refine heldTake (i := 9) (oi := { dst := some 50, op := Op.binOp BinOp.eql 3 (Operand.tmp 49) (Operand.const (Value.int IntKind.i64 0)) 3, type := 4, pos := "law.go:35", after := #[{ on := 8, ground := Ground.data }, { on := 7, ground := Ground.guard }], guard := some (7, false) }) (v := ?_) rfl (by kernel_rfl) (by kernel_rfl) (by kernel_rfl) (by assumption) ?_ ?_; rotate_left; focus (refine .inl ⟨by kernel_rfl, ?_⟩; intro w hSw; (try dsimp only at hSw); go_simp; (try with_reducible rfl)); (try simp only [Act.put, List.setIfInBounds_toArray, List.set_cons_zero, List.set_cons_succ]))
    (refine heldTake (i := 10) (oi := { dst := some 51, op := Op.move (Operand.tmp 50), type := 4, pos := "law.go:35", after := #[{ on := 9, ground := Ground.data }, { on := 7, ground := Ground.chain }, { on := 7, ground := Ground.guard }], guard := some (7, false) }) (v := ?_) rfl (by kernel_rfl) (by kernel_rfl) (by kernel_rfl) (by assumption) ?_ ?_; rotate_left; focus (refine .inl ⟨by kernel_rfl, ?_⟩; intro w hSw; (try dsimp only at hSw); go_simp; (try with_reducible rfl)); (try simp only [Act.put, List.setIfInBounds_toArray, List.set_cons_zero, List.set_cons_succ]))
    (refine heldTake (i := 11) (oi := { dst := some 52, op := Op.move (Operand.tmp 6), type := 29, pos := "law.go:35", after := #[{ on := 10, ground := Ground.guard }], guard := some (10, true) }) (v := ?_) rfl (by kernel_rfl) (by kernel_rfl) (by kernel_rfl) (by assumption) ?_ ?_; rotate_left; focus (refine .inl ⟨by kernel_rfl, ?_⟩; intro w hSw; (try dsimp only at hSw); go_simp; (try with_reducible rfl)); (try simp only [Act.put, List.setIfInBounds_toArray, List.set_cons_zero, List.set_cons_succ]))
    (refine heldTake (i := 12) (oi := { dst := some 53, op := Op.convert 29 9 (Operand.tmp 52), type := 9, pos := "law.go:35", after := #[{ on := 11, ground := Ground.data }, { on := 10, ground := Ground.guard }], guard := some (10, true) }) (v := ?_) rfl (by kernel_rfl) (by kernel_rfl) (by kernel_rfl) (by assumption) ?_ ?_; rotate_left; focus (refine .inl ⟨by kernel_rfl, ?_⟩; intro w hSw; (try dsimp only at hSw); go_simp; (try with_reducible rfl)); (try simp only [Act.put, List.setIfInBounds_toArray, List.set_cons_zero, List.set_cons_succ]))
    (refine heldTake (i := 13) (oi := { dst := some 54, op := Op.load 25 (Operand.tmp 2), type := 25, pos := "law.go:35", after := #[{ on := 10, ground := Ground.guard }], guard := some (10, true) }) (v := ?_) rfl (by kernel_rfl) (by kernel_rfl) (by kernel_rfl) (by assumption) ?_ ?_; rotate_left; focus (refine .inl ⟨by kernel_rfl, ?_⟩; intro w hSw; (try dsimp only at hSw); go_simp; (try with_reducible rfl)); (try simp only [Act.put, List.setIfInBounds_toArray, List.set_cons_zero, List.set_cons_succ]))
    refine wpAnyH_ready (rs := [14]) (by kernel_rfl) (by simp) ?_
    refine AllReadyH.cons (o := { dst := some 55, op := Op.call { callee := Callee.value (Operand.func 12), args := #[Operand.tmp 54], argTypes := #[25] }, type := 9, pos := "law.go:35", after := #[{ on := 13, ground := Ground.data }, { on := 10, ground := Ground.chain }, { on := 10, ground := Ground.guard }], guard := some (10, true) }) rfl (fun K hK => ?_) AllReadyH.nil
    go_simp
    (go_at_call 12; (with_reducible refine (HRP.out _ (And.left hHeld).a.li).mono ?_); rintro e w8 ⟨rfl, hb⟩; have hk8 := CLb.five (CLb.on (And.left hHeld) hb); clear hb)
    refine hK.out _ _ hk8 (fun hHeld14 => ?_)
    clear hK K hHeld
    (try simp only [Act.put, List.setIfInBounds_toArray, List.set_cons_zero, List.set_cons_succ])
    (refine heldTake (i := 15) (oi := { dst := some 56, op := Op.binOp BinOp.eql 9 (Operand.tmp 53) (Operand.tmp 55) 9, type := 4, pos := "law.go:35", after := #[{ on := 12, ground := Ground.data }, { on := 14, ground := Ground.data }, { on := 10, ground := Ground.guard }], guard := some (10, true) }) (v := ?_) rfl (by kernel_rfl) (by kernel_rfl) (by kernel_rfl) (by assumption) ?_ ?_; rotate_left; focus (refine .inl ⟨by kernel_rfl, ?_⟩; intro w hSw; (try dsimp only at hSw); go_simp; (try with_reducible rfl)); (try simp only [Act.put, List.setIfInBounds_toArray, List.set_cons_zero, List.set_cons_succ]))
    (refine heldTake (i := 16) (oi := { dst := some 57, op := Op.pick (Operand.tmp 51) (Operand.tmp 56) (Operand.const (Value.bool false)), type := 4, pos := "law.go:35", after := #[{ on := 10, ground := Ground.data }, { on := 15, ground := Ground.data }, { on := 7, ground := Ground.guard }], guard := some (7, false) }) (v := ?_) rfl (by kernel_rfl) (by kernel_rfl) (by kernel_rfl) (by assumption) ?_ ?_; rotate_left; focus (refine .inl ⟨by kernel_rfl, ?_⟩; intro w hSw; (try dsimp only at hSw); go_simp; (try with_reducible rfl)); (try simp only [Act.put, List.setIfInBounds_toArray, List.set_cons_zero, List.set_cons_succ]))
    (refine heldTake (i := 17) (oi := { dst := some 58, op := Op.pick (Operand.tmp 48) (Operand.const (Value.bool true)) (Operand.tmp 57), type := 4, pos := "law.go:35", after := #[{ on := 7, ground := Ground.data }, { on := 16, ground := Ground.data }], guard := none }) (v := ?_) rfl (by kernel_rfl) (by kernel_rfl) (by kernel_rfl) (by assumption) ?_ ?_; rotate_left; focus (refine .inl ⟨by kernel_rfl, ?_⟩; intro w hSw; (try dsimp only at hSw); go_simp; (try with_reducible rfl)); (try simp only [Act.put, List.setIfInBounds_toArray, List.set_cons_zero, List.set_cons_succ]))
    (refine heldTake (i := 18) (oi := { dst := some 4, op := Op.assign (Operand.tmp 58), type := 4, pos := "law.go:35", after := #[{ on := 17, ground := Ground.data }, { on := 14, ground := Ground.chain }, { on := 0, ground := Ground.phase }, { on := 1, ground := Ground.phase }, { on := 2, ground := Ground.phase }, { on := 3, ground := Ground.phase }, { on := 4, ground := Ground.phase }, { on := 5, ground := Ground.phase }, { on := 6, ground := Ground.phase }, { on := 7, ground := Ground.phase }, { on := 8, ground := Ground.phase }, { on := 9, ground := Ground.phase }, { on := 10, ground := Ground.phase }, { on := 11, ground := Ground.phase }, { on := 12, ground := Ground.phase }, { on := 13, ground := Ground.phase }, { on := 14, ground := Ground.phase }, { on := 15, ground := Ground.phase }, { on := 16, ground := Ground.phase }, { on := 17, ground := Ground.phase }], guard := none }) (v := ?_) rfl (by kernel_rfl) (by kernel_rfl) (by kernel_rfl) (by assumption) ?_ ?_; rotate_left; focus (refine .inl ⟨by kernel_rfl, ?_⟩; intro w hSw; (try dsimp only at hSw); go_simp; (try with_reducible rfl)); (try simp only [Act.put, List.setIfInBounds_toArray, List.set_cons_zero, List.set_cons_succ]))
    refine wpAnyH_done (by kernel_rfl) ?_ _
    refine NoPanic.normal ?_
    have hLast := hHeld14
    clear hHeld14
    go_wp2
    go_ret
    exact ⟨rfl, (And.left hLast).a.bel⟩
  · have hx := HZ1.out h0
    have dz : (z != 0) = true := by simpa using h0
    have dx : ((xs.length : Int) == 0) = true := by rw [hx]; rfl
    clear HZ0 HZ1 HPU HCR HRR h0 hx
    go_quiet (fail)
    go_wp2
    go_ret
    exact ⟨rfl, below_drewN H7.out.a.bel _⟩
end Go.Proofs.YtjjhgmmkapeifaaDoor

/- An instruction by value, its labels, a slice of bytes: opened. -/
namespace Go.Proofs.YtjjhgmmkapeifaaDoor
open Go.ChangeShapes Go.WideShapes Go.ChangeAt Go.RowKit Go.Joins
set_option linter.unusedVariables false
set_option maxRecDepth 100000

theorem laidOut : laidOutB Tryd.prog = true := by kernel_rfl
theorem own : ownKnob Tryd.prog.godebug = none := by kernel_rfl
theorem cellsB : Tryd.prog.cellsOf 5 = 1 := by kernel_rfl
theorem cells4 : Tryd.prog.cellsOf 26 = 1 := by kernel_rfl
section
variable {H : Type} {enc : TypeId × Value → H} {W : World} {sp : Nat → Bool}
theorem ints_lie {k : IntKind} {a : Addr} {len : Nat} {zs : List Int} (hle : len ≤ zs.length) (hcell : ∀ i, i < zs.length → W.cell? (a.add i) = some (.int k (zs.getD i 0))) :
    ∀ j v, ((zs.take len).map (Value.int k))[j]? = some v → ∃ b off, some a = some (⟨b, off, none⟩ : Addr) ∧ b < W.heap.size ∧ W.cell? ⟨b, off + j, none⟩ = some v := by
  intro i v hv
  have hi : i < len := by
    have := (List.getElem?_eq_some_iff.1 hv).1
    rw [List.length_map, List.length_take] at this
    omega
  obtain ⟨b, off, spot⟩ := a
  have hsp : spot = none := by
    have h0 := hcell 0 (by omega)
    simpa [Addr.add] using World.cell?_spot h0
  subst hsp
  have hc := hcell i (by omega)
  rw [Go.WideShapes.add_plain] at hc
  refine ⟨b, off, rfl, block_lt_of_cell hc, ?_⟩
  rw [hc, ← hv, List.getElem?_map, List.getElem?_take, if_pos hi, List.getElem?_eq_getElem (by omega : i < zs.length)]
  simp [List.getD, List.getElem?_eq_getElem (by omega : i < zs.length)]
theorem open_labels {n : Nat} {v : Value} {y : DataW H × List MemPlace} (h : DataW.trod enc Tryd.prog W 0 sp true n 23 [v] = some y) :
    ∃ A c l, v = .slice A l.length c ∧ LiesL W A l ∧ (∀ d ∈ l, 0 ≤ d ∧ d ≤ 4294967295) ∧ (l.length : Int) ≤ 9223372036854775807 := by
  rcases open_ints Tryd.underlying23 Tryd.underlying26 cells4 h with ⟨hcs, _⟩ | ⟨a, l, c, zs, hcs, _, hl, hm, hz, _, hcell, hwf⟩
  · simp at hcs
    exact ⟨none, 0, [], hcs, fun j v hv => by simp [cells32] at hv, by simp, by simp⟩
  · simp at hcs
    subst hcs
    have hle : l ≤ zs.length := by rw [hz]; split <;> omega
    have hlen : (zs.take l).length = l := by rw [List.length_take]; omega
    unfold maxLen at hm
    refine ⟨some a, c, zs.take l, by rw [hlen], ints_lie hle hcell, fun d hd => ?_, by rw [hlen]; omega⟩
    have w0 := hwf d (List.mem_of_mem_take hd)
    simpa [Lit.wf, IntKind.min, IntKind.max, IntKind.signed, IntKind.bits] using w0
theorem nums_ex : ∀ r : List Int, (∀ c ∈ r, 0 ≤ c ∧ c ≤ 255) → ∃ l : List UInt8, nums l = r
  | [], _ => ⟨[], rfl⟩
  | c :: r, h => by
    obtain ⟨l, hl⟩ := nums_ex r (fun d hd => h d (List.mem_cons_of_mem _ hd))
    have hc := h c (by simp)
    refine ⟨UInt8.ofNat c.toNat :: l, ?_⟩
    unfold nums at hl ⊢
    rw [List.map_cons, hl, u8_of hc.1 hc.2]
theorem open_bytes {A : Option Addr} {len cap : Nat} {d : DataW H} {p : List MemPlace} (h : DataW.Trod enc Tryd.prog W 0 sp true 29 (.slice A len cap) d p) :
    ∃ l : List UInt8, l.length = len ∧ Lies W W.heap.size A (cells (nums l)) ∧ (A = none → cap = 0) ∧ (l.length : Int) ≤ 9223372036854775807 := by
  obtain ⟨fuel, hf⟩ := h
  rcases open_ints Tryd.underlying29 Tryd.underlying5 cellsB hf with ⟨hcs, _⟩ | ⟨a, l, c, zs, hcs, _, hl, hm, hz, _, hcell, hwf⟩
  · simp [Value.cells] at hcs
    obtain ⟨rfl, rfl, rfl⟩ := hcs
    exact ⟨[], rfl, Lies.nil, fun _ => rfl, by simp⟩
  · simp [Value.cells] at hcs
    obtain ⟨rfl, rfl, rfl⟩ := hcs
    have hle : len ≤ zs.length := by rw [hz]; split <;> omega
    have hlen : (zs.take len).length = len := by rw [List.length_take]; omega
    obtain ⟨bs, hbs⟩ := nums_ex (zs.take len) (fun d hd => by
      have w0 := hwf d (List.mem_of_mem_take hd)
      simpa [Lit.wf, IntKind.min, IntKind.max, IntKind.signed, IntKind.bits] using w0)
    have hbl : bs.length = len := by rw [← nums_length, hbs, hlen]
    unfold maxLen at hm
    refine ⟨bs, hbl, ?_, (fun e => by cases e), by rw [hbl]; omega⟩
    rw [hbs]
    exact ints_lie hle hcell
/-- The parts of an instruction. -/
theorem open_parts {n : Nat} {v0 v1 v2 v3 : Value} {y0 y1 y2 y3 : DataW H × List MemPlace}
    (h0 : DataW.trod enc Tryd.prog W 0 sp true n 5 [v0] = some y0) (h1 : DataW.trod enc Tryd.prog W 0 sp true n 22 [v1] = some y1) (h2 : DataW.trod enc Tryd.prog W 0 sp true n 22 [v2] = some y2) (h3 : DataW.trod enc Tryd.prog W 0 sp true n 23 [v3] = some y3) :
    ∃ (i : I) (A : Option Addr) (c : Nat), v0 = .int .u8 i.op.toNat ∧ v1 = .int .u64 i.a ∧ v2 = .int .u64 i.b ∧ v3 = .slice A i.l.length c ∧ i.Ok ∧ LiesL W A i.l ∧ (i.l.length : Int) ≤ 9223372036854775807 := by
  obtain ⟨x0, e0, _, w0⟩ := DataW.trod_int Tryd.underlying5 h0
  obtain ⟨x1, e1, _, w1⟩ := DataW.trod_int Tryd.underlying22 h1
  obtain ⟨x2, e2, _, w2⟩ := DataW.trod_int Tryd.underlying22 h2
  obtain ⟨A, c, l, e3, hl, hn, hm⟩ := open_labels h3
  simp only [List.cons.injEq, and_true] at e0 e1 e2
  have b0 : 0 ≤ x0 ∧ x0 ≤ 255 := by simpa [Lit.wf, IntKind.min, IntKind.max, IntKind.signed, IntKind.bits] using w0
  have b1 : 0 ≤ x1 ∧ x1 ≤ 18446744073709551615 := by simpa [Lit.wf, IntKind.min, IntKind.max, IntKind.signed, IntKind.bits] using w1
  have b2 : 0 ≤ x2 ∧ x2 ≤ 18446744073709551615 := by simpa [Lit.wf, IntKind.min, IntKind.max, IntKind.signed, IntKind.bits] using w2
  exact ⟨⟨UInt8.ofNat x0.toNat, x1, x2, l⟩, A, c, by rw [e0, u8_of b0.1 b0.2], e1, e2, e3, ⟨b1.1, b1.2, b2.1, b2.2, hn⟩, hl, hm⟩
theorem open_ins {b0 : Nat} {r : Reach} {v : Value} {d : DataW H} {p : List MemPlace} (hv : Value.okWide Tryd.prog W r b0 25 v) (h : DataW.Trod enc Tryd.prog W 0 sp true 25 v d p) :
    ∃ (i : I) (A : Option Addr) (c : Nat), v = insV i A c ∧ i.Ok ∧ LiesL W A i.l ∧ (i.l.length : Int) ≤ 9223372036854775807 := by
  obtain ⟨v0, v1, v2, v3, y0, y1, y2, y3, n, rfl, _, _, h0, h1, h2, h3⟩ := open_agg4 Tryd.underlying25 (by kernel_rfl) (by kernel_rfl) hv h
  obtain ⟨i, A, c, rfl, rfl, rfl, rfl, ho, hl, hn⟩ := open_parts h0 h1 h2 h3
  exact ⟨i, A, c, rfl, ho, hl, hn⟩
end
end Go.Proofs.YtjjhgmmkapeifaaDoor

/- What the rows list of the tables of package ops, as the walks want it; a world that holds them. -/
namespace Go.Proofs.YtjjhgmmkapeifaaDoor
set_option linter.unusedVariables false
open Go.Shelf Go.Lib

/-- What the rows list. -/
def listed : List (String × DataW Unit) := [("creel/ops.controlNames", Rows.laid_creel_ops_controlNames), ("creel/ops.memoryNames", Rows.laid_creel_ops_memoryNames), ("creel/ops.testNames", Rows.laid_creel_ops_testNames), ("creel/ops.numberNames", Rows.laid_creel_ops_numberNames), ("creel/ops.convertNames", Rows.laid_creel_ops_convertNames), ("creel/ops.accesses", Rows.laid_creel_ops_accesses)]
theorem listed_plain (W : World) : laidMetH Tryd.prog listed W = laidMet Tryd.prog listed W := Go.MakeChecks.laidMetH_plain _ _ _ (by kernel_rfl)

theorem cInt : Tryd.prog.cellsOf 3 = 1 := by kernel_rfl
theorem cBool : Tryd.prog.cellsOf 4 = 1 := by kernel_rfl
theorem cByte : Tryd.prog.cellsOf 5 = 1 := by kernel_rfl
theorem cStr : Tryd.prog.cellsOf 9 = 1 := by kernel_rfl
theorem cAcc : Tryd.prog.cellsOf 138 = 4 := by kernel_rfl

/-- A list cut into pieces of n. -/
theorem pieces {α : Type} (n : Nat) (g : α → List Value) : ∀ (l : List α) (L : List Value), L.length = l.length * n → (∀ k a, l[k]? = some a → (L.drop (k * n)).take n = g a) → L = l.flatMap g
  | [], L, hl, _ => List.eq_nil_of_length_eq_zero (by simpa using hl)
  | x :: r, L, hl, h => by
    have h0 := h 0 x rfl
    rw [Nat.zero_mul, List.drop_zero] at h0
    have hr := pieces n g r (L.drop n) (by rw [List.length_drop, hl, List.length_cons, Nat.add_mul]; omega) (fun k a hk => by
      have := h (k + 1) a hk
      rw [List.drop_drop, ← this]
      congr 2
      rw [Nat.add_mul]
      omega)
    rw [List.flatMap_cons, ← hr, ← h0, List.take_append_drop]

theorem map_flat {α : Type} (f : α → Value) : ∀ l : List α, l.map f = l.flatMap fun a => [f a]
  | [] => rfl
  | x :: r => by rw [List.map_cons, List.flatMap_cons, map_flat f r]; rfl
section
variable {H : Type} {enc : TypeId × Value → H} {w : World} {base : Nat} {sp : Nat → Bool} {held : Bool} {fuel : Nat}
theorem strs_of {t : TypeId} {n : Nat} {cs : Array Value} {l : List (List UInt8)} {p : List MemPlace} (ht : Tryd.prog.underlying t = some (.array n 9)) (hc : Tryd.prog.cellsOf t = n) (hn : l.length = n)
    (h : DataW.trod enc Tryd.prog w base sp held fuel t cs.toList = some (.agg (l.map fun s => .lit (.string s)), p)) : cs = strs l := by
  obtain ⟨_, _, _, _, hl, _, _⟩ := DataW.trod_array ht h
  apply Array.toList_inj.1
  have e : (strs l).toList = l.flatMap fun s => [.string (S s)] := by
    show l.map _ = _
    exact map_flat _ l
  rw [e]
  refine pieces 1 _ l cs.toList (by omega) (fun k a hk => ?_)
  obtain ⟨hk', rfl⟩ := List.getElem?_eq_some_iff.1 hk
  obtain ⟨f, d, q, h1, h2⟩ := array_elem ht h k (by omega)
  rw [cStr] at h2
  obtain ⟨s, hs, he, _⟩ := DataW.trod_string Tryd.underlying9 h2
  rw [hs]
  rw [List.getElem?_map, hk] at h1
  simp only [Option.map_some, Option.some.injEq] at h1
  rw [Prod.mk.injEq] at he
  rw [← h1] at he
  have e2 : l[k] = s.data.toList := by simpa using he.1
  rw [e2, S_of]
set_option maxRecDepth 100000 in
/-- A part of the table of accesses. -/
theorem quad_of {cs : List Value} {a : AccR} {p : List MemPlace}
    (h : DataW.trod enc Tryd.prog w base sp held fuel 138 cs = some (.agg [.lit (.int .i64 a.n), .lit (.int .u8 a.t), .lit (.bool a.wr), .lit (.bool a.sg)], p)) : cs = [.int .i64 a.n, .int .u8 a.t, .bool a.wr, .bool a.sg] := by
  obtain ⟨xs, m, rfl, hx, hl, hxl, hall⟩ := DataW.trod_struct Tryd.underlying138 h
  rw [cAcc] at hl
  have h0 : DataW.trod enc Tryd.prog w base sp held m 3 ((cs.drop 0).take (Tryd.prog.cellsOf 3)) = xs[0]? := hall 0 _ rfl
  have h1 : DataW.trod enc Tryd.prog w base sp held m 5 ((cs.drop 1).take (Tryd.prog.cellsOf 5)) = xs[1]? := hall 1 _ rfl
  have h2 : DataW.trod enc Tryd.prog w base sp held m 4 ((cs.drop 2).take (Tryd.prog.cellsOf 4)) = xs[2]? := hall 2 _ rfl
  have h3 : DataW.trod enc Tryd.prog w base sp held m 4 ((cs.drop 3).take (Tryd.prog.cellsOf 4)) = xs[3]? := hall 3 _ rfl
  rw [cInt] at h0
  rw [cByte] at h1
  rw [cBool] at h2 h3
  match xs, hxl, cs, hl with
  | [x0, x1, x2, x3], _, [u0, u1, u2, u3], _ =>
    simp only [List.map_cons, List.map_nil, Prod.mk.injEq, DataW.agg.injEq, List.cons.injEq, and_true] at hx
    obtain ⟨⟨e0, e1, e2, e3⟩, _⟩ := hx
    simp only [List.drop_zero, List.drop_succ_cons, List.getElem?_cons_zero, List.getElem?_cons_succ, List.take_succ_cons, List.take_zero] at h0 h1 h2 h3
    obtain ⟨z0, y0, rfl, _⟩ := DataW.trod_int Tryd.underlying3 h0
    obtain ⟨z1, y1, rfl, _⟩ := DataW.trod_int Tryd.underlying5 h1
    obtain ⟨z2, y2, rfl⟩ := DataW.trod_bool Tryd.underlying4 h2
    obtain ⟨z3, y3, rfl⟩ := DataW.trod_bool Tryd.underlying4 h3
    have e0' : (a.n : Int) = z0 := by simpa using e0
    have e1' : (a.t : Int) = z1 := by simpa using e1
    have e2' : a.wr = z2 := by simpa using e2
    have e3' : a.sg = z3 := by simpa using e3
    rw [e0', e1', e2', e3']
    have y0' : u0 = .int .i64 z0 := by simpa using y0
    have y1' : u1 = .int .u8 z1 := by simpa using y1
    have y2' : u2 = .bool z2 := by simpa using y2
    have y3' : u3 = .bool z3 := by simpa using y3
    rw [y0', y1', y2', y3']
theorem acc_of {t : TypeId} {n : Nat} {cs : Array Value} {l : List AccR} {p : List MemPlace} (ht : Tryd.prog.underlying t = some (.array n 138)) (hc : Tryd.prog.cellsOf t = n * 4) (hn : l.length = n)
    (h : DataW.trod enc Tryd.prog w base sp held fuel t cs.toList = some (.agg (l.map fun a => .agg [.lit (.int .i64 a.n), .lit (.int .u8 a.t), .lit (.bool a.wr), .lit (.bool a.sg)]), p)) : cs = accCells l := by
  obtain ⟨_, _, _, _, hl, _, _⟩ := DataW.trod_array ht h
  apply Array.toList_inj.1
  show cs.toList = l.flatMap _
  refine pieces 4 _ l cs.toList (by omega) (fun k a hk => ?_)
  obtain ⟨hk', rfl⟩ := List.getElem?_eq_some_iff.1 hk
  obtain ⟨f, d, q, h1, h2⟩ := array_elem ht h k (by omega)
  rw [cAcc] at h2
  rw [List.getElem?_map, hk] at h1
  simp only [Option.map_some, Option.some.injEq] at h1
  subst h1
  exact quad_of h2
end
theorem heap_of {W : World} {x : String} {g : Nat} {cs : Array Value} (hg : Tryd.prog.globalNamed x = some g) (hv : W.var? Tryd.prog x = some cs) : ∃ t fr, W.heap[g]? = some (.cells cs t fr) := by
  simp only [World.var?, hg, Option.bind_some] at hv
  split at hv
  · rename_i c t fr hb
    cases hv
    exact ⟨t, fr, hb⟩
  · cases hv
theorem n0 : Tryd.prog.globalNamed "creel/ops.controlNames" = some 0 := by kernel_rfl
theorem y0 : (Tryd.prog.globals[0]?).map (·.type) = some 131 := by kernel_rfl
theorem d0 : (Rows.laid_creel_ops_controlNames : DataW Unit) = .agg (tab0.map fun s => .lit (.string s)) := by kernel_rfl
theorem t0 {W : World} (h : laidMet Tryd.prog listed W) : ∃ t fr, W.heap[0]? = some (.cells (strs tab0) t fr) := by
  obtain ⟨g, t, cs, fuel, p, hg, hty, hvar, hd⟩ := Lib.laidMet.reads h (show ("creel/ops.controlNames", Rows.laid_creel_ops_controlNames) ∈ listed from .head _)
  obtain rfl := Option.some.inj (n0.symm.trans hg)
  obtain rfl := Option.some.inj (y0.symm.trans hty)
  rw [d0] at hd
  obtain rfl := strs_of Tryd.underlying131 (by kernel_rfl) (by kernel_rfl) hd
  exact heap_of n0 hvar
theorem n1 : Tryd.prog.globalNamed "creel/ops.memoryNames" = some 1 := by kernel_rfl
theorem y1 : (Tryd.prog.globals[1]?).map (·.type) = some 132 := by kernel_rfl
theorem d1 : (Rows.laid_creel_ops_memoryNames : DataW Unit) = .agg (tab1.map fun s => .lit (.string s)) := by kernel_rfl
theorem t1 {W : World} (h : laidMet Tryd.prog listed W) : ∃ t fr, W.heap[1]? = some (.cells (strs tab1) t fr) := by
  obtain ⟨g, t, cs, fuel, p, hg, hty, hvar, hd⟩ := Lib.laidMet.reads h (show ("creel/ops.memoryNames", Rows.laid_creel_ops_memoryNames) ∈ listed from .tail _ (.head _))
  obtain rfl := Option.some.inj (n1.symm.trans hg)
  obtain rfl := Option.some.inj (y1.symm.trans hty)
  rw [d1] at hd
  obtain rfl := strs_of Tryd.underlying132 (by kernel_rfl) (by kernel_rfl) hd
  exact heap_of n1 hvar
theorem n2 : Tryd.prog.globalNamed "creel/ops.testNames" = some 2 := by kernel_rfl
theorem y2 : (Tryd.prog.globals[2]?).map (·.type) = some 133 := by kernel_rfl
theorem d2 : (Rows.laid_creel_ops_testNames : DataW Unit) = .agg (tab2.map fun s => .lit (.string s)) := by kernel_rfl
theorem t2 {W : World} (h : laidMet Tryd.prog listed W) : ∃ t fr, W.heap[2]? = some (.cells (strs tab2) t fr) := by
  obtain ⟨g, t, cs, fuel, p, hg, hty, hvar, hd⟩ := Lib.laidMet.reads h (show ("creel/ops.testNames", Rows.laid_creel_ops_testNames) ∈ listed from .tail _ (.tail _ (.head _)))
  obtain rfl := Option.some.inj (n2.symm.trans hg)
  obtain rfl := Option.some.inj (y2.symm.trans hty)
  rw [d2] at hd
  obtain rfl := strs_of Tryd.underlying133 (by kernel_rfl) (by kernel_rfl) hd
  exact heap_of n2 hvar
theorem n3 : Tryd.prog.globalNamed "creel/ops.numberNames" = some 3 := by kernel_rfl
theorem y3 : (Tryd.prog.globals[3]?).map (·.type) = some 134 := by kernel_rfl
theorem d3 : (Rows.laid_creel_ops_numberNames : DataW Unit) = .agg (tab3.map fun s => .lit (.string s)) := by kernel_rfl
theorem t3 {W : World} (h : laidMet Tryd.prog listed W) : ∃ t fr, W.heap[3]? = some (.cells (strs tab3) t fr) := by
  obtain ⟨g, t, cs, fuel, p, hg, hty, hvar, hd⟩ := Lib.laidMet.reads h (show ("creel/ops.numberNames", Rows.laid_creel_ops_numberNames) ∈ listed from .tail _ (.tail _ (.tail _ (.head _))))
  obtain rfl := Option.some.inj (n3.symm.trans hg)
  obtain rfl := Option.some.inj (y3.symm.trans hty)
  rw [d3] at hd
  obtain rfl := strs_of Tryd.underlying134 (by kernel_rfl) (by kernel_rfl) hd
  exact heap_of n3 hvar
theorem n4 : Tryd.prog.globalNamed "creel/ops.convertNames" = some 4 := by kernel_rfl
theorem y4 : (Tryd.prog.globals[4]?).map (·.type) = some 135 := by kernel_rfl
theorem d4 : (Rows.laid_creel_ops_convertNames : DataW Unit) = .agg (tab4.map fun s => .lit (.string s)) := by kernel_rfl
theorem t4 {W : World} (h : laidMet Tryd.prog listed W) : ∃ t fr, W.heap[4]? = some (.cells (strs tab4) t fr) := by
  obtain ⟨g, t, cs, fuel, p, hg, hty, hvar, hd⟩ := Lib.laidMet.reads h (show ("creel/ops.convertNames", Rows.laid_creel_ops_convertNames) ∈ listed from .tail _ (.tail _ (.tail _ (.tail _ (.head _)))))
  obtain rfl := Option.some.inj (n4.symm.trans hg)
  obtain rfl := Option.some.inj (y4.symm.trans hty)
  rw [d4] at hd
  obtain rfl := strs_of Tryd.underlying135 (by kernel_rfl) (by kernel_rfl) hd
  exact heap_of n4 hvar
theorem n5 : Tryd.prog.globalNamed "creel/ops.accesses" = some 5 := by kernel_rfl
theorem y5 : (Tryd.prog.globals[5]?).map (·.type) = some 152 := by kernel_rfl
theorem d5 : (Rows.laid_creel_ops_accesses : DataW Unit) = .agg (tabA.map fun a => .agg [.lit (.int .i64 a.n), .lit (.int .u8 a.t), .lit (.bool a.wr), .lit (.bool a.sg)]) := by kernel_rfl
theorem t5 {W : World} (h : laidMet Tryd.prog listed W) : ∃ t fr, W.heap[5]? = some (.cells (accCells tabA) t fr) := by
  obtain ⟨g, t, cs, fuel, p, hg, hty, hvar, hd⟩ := Lib.laidMet.reads h (show ("creel/ops.accesses", Rows.laid_creel_ops_accesses) ∈ listed from .tail _ (.tail _ (.tail _ (.tail _ (.tail _ (.head _))))))
  obtain rfl := Option.some.inj (n5.symm.trans hg)
  obtain rfl := Option.some.inj (y5.symm.trans hty)
  rw [d5] at hd
  obtain rfl := acc_of Tryd.underlying152 (by kernel_rfl) (by kernel_rfl) hd
  exact heap_of n5 hvar
theorem tabs_of {W : World} (h : laidMetH Tryd.prog listed W) : Tabs W := by
  rw [listed_plain] at h
  exact ⟨t0 h, t1 h, t2 h, t3 h, t4 h, t5 h⟩

/-- The settled world, the tables laid. -/
noncomputable def laidWorld (os : Os) : World :=
  let w0 := World.holding Tryd.prog os ⟨#[], #[], []⟩
  let put (h : Array Obj) (g : Nat) (cs : Array Value) : Array Obj := h.modify g fun
    | .cells _ t frozen => .cells cs t frozen
    | o => o
  let h0 := put w0.heap 0 (strs tab0)
  let h1 := put h0 1 (strs tab1)
  let h2 := put h1 2 (strs tab2)
  let h3 := put h2 3 (strs tab3)
  let h4 := put h3 4 (strs tab4)
  { w0 with heap := put h4 5 (accCells tabA) }
theorem laidWorld_met (os : Os) (args : Array Value) : laidMetH Tryd.prog listed ((laidWorld os).forCall (fun _ _ => 0) ⟨#[], args, []⟩).memory := by
  rw [listed_plain]
  exact (LaidIn.of_run (l := listed) [0, 1, 2, 3, 4, 5] 8 (by kernel_rfl) (by kernel_rfl) (by kernel_rfl) (by kernel_rfl)).met
end Go.Proofs.YtjjhgmmkapeifaaDoor
