/- slices.Equal of labels; instr.Same; the reference's Same. -/
import Derived.Test.YticgmfeihdankaaDoorZm06
import Derived.RegionTactic
import Derived.Test.YticgmfeihdankaaDoorZm11
import Derived.Test.YticgmfeihdankaaDoorZg01
import Derived.Test.YticgmfeihdankaaDoorZm08
namespace Go.Proofs.YticgmfeihdankaaDoor
open Go.RowKit
set_option linter.unusedVariables false
set_option maxRecDepth 100000

def LiesL (w : World) (A : Option Addr) (l : List Int) : Prop := Lies w w.heap.size A (cells32 l)
theorem LiesL.below {w w' : World} {A : Option Addr} {l : List Int} (h : LiesL w A l) (hb : Below w.heap.size w w') : LiesL w' A l := (Lies.below h hb (Nat.le_refl _)).more hb.size
theorem LiesL.at {w : World} {A : Option Addr} {l : List Int} (h : LiesL w A l) {i : Nat} {d : Int} (hd : l[i]? = some d) : ∃ b off, A = some ⟨b, off, none⟩ ∧ b < w.heap.size ∧ w.cell? ⟨b, off + i, none⟩ = some (.int .u32 d) := by
  obtain ⟨b, off, e, hb, hc⟩ := h i _ (cells32_get hd)
  exact ⟨b, off, e, hb, hc⟩
/-- The first k of two lists are the same. -/
def Eqs (a b : List Int) (k : Nat) : Prop := ∀ j, j < k → a[j]? = b[j]?
theorem Eqs.all {a b : List Int} {n : Nat} (h : Eqs a b n) (ha : a.length = n) (hb : b.length = n) : a = b := by
  apply List.ext_getElem?
  intro j
  rcases Nat.lt_or_ge j n with g | g
  · exact h j g
  · rw [List.getElem?_eq_none (by omega), List.getElem?_eq_none (by omega)]
def BoolPost (p : Bool) (w : World) (e : Ending) (w' : World) : Prop := e = .returned (.bool p) ∧ Below w.heap.size w w'
set_option maxHeartbeats 800000 in
theorem equal_any {w : World} {A B : Option Addr} {c d : Nat} {a b : List Int} (ha : LiesL w A a) (hb : LiesL w B b) (na : a.length ≤ 100000) (nb : b.length ≤ 100000) :
    Calls Tryd.prog 91 #[.slice A a.length c, .slice B b.length d] w fun e w' => e = .returned (.bool (decide (a = b))) ∧ ∃ q, w' = w.drewN q := by
  obtain ⟨n, hn⟩ : ∃ n, n = a.length := ⟨_, rfl⟩
  obtain ⟨m, hm⟩ : ∃ m, m = b.length := ⟨_, rfl⟩
  rw [← hn] at na ⊢
  rw [← hm] at nb ⊢
  by_cases hnm : n = m
  · subst hnm
    have HA := Lib.hid ha
    have HB := Lib.hid hb
    have HN := Lib.hid hn
    have HM := Lib.hid hm
    clear ha hb hn hm
    go_enter Tryd.func91, Tryd.ntmps91
    go_wp2
    go_loopw [13] (fun s wr => ∃ k q : Nat, k ≤ n ∧ s = .int .i64 k ∧ wr = w.drewN q ∧ Eqs a b k) (fun s _ => n - (intOf s).toNat)
    case atStart => exact ⟨0, 0, Nat.zero_le _, rfl, rfl, fun j hj => absurd hj (Nat.not_lt_zero _)⟩
    case round =>
      obtain ⟨k, q, hk, rfl, rfl, heq⟩ := hrel
      by_cases hlt : k < n
      · obtain ⟨x, hx⟩ : ∃ x, a[k]? = some x := ⟨_, List.getElem?_eq_getElem (by rw [← HN.out]; exact hlt)⟩
        obtain ⟨y, hy⟩ : ∃ y, b[k]? = some y := ⟨_, List.getElem?_eq_getElem (by rw [← HM.out]; exact hlt)⟩
        obtain ⟨b1, o1, rfl, _, g1⟩ := HA.out.at hx
        obtain ⟨b2, o2, rfl, _, g2⟩ := HB.out.at hy
        have HE := Lib.hid heq
        have HX := Lib.hid hx
        have HY := Lib.hid hy
        clear heq hx hy
        by_cases hxy : x = y
        · have HXY := Lib.hid hxy
          have hc : (x != y) = false := by simpa using hxy
          clear hxy
          go_wp2_with fail
          go_region
          go_wp2
          go_roundw
          case measure => simp [intOf]; omega
          case rel =>
            refine ⟨k + 1, q + 1, by omega, by go_num, rfl, fun j hj => ?_⟩
            by_cases e : j = k
            · subst e
              rw [HX.out, HY.out, HXY.out]
            · exact HE.out j (by omega)
        · have HXY := Lib.hid hxy
          have hc : (x != y) = true := by simpa using hxy
          clear hxy
          go_wp2_with fail
          go_region
          go_wp2
          go_ret
          refine ⟨ret_bool ?_, q + 1, rfl⟩
          have : ¬ a = b := fun e => HXY.out (by have h1 := HX.out; have h2 := HY.out; rw [e, h2] at h1; injection h1 with h1; exact h1.symm)
          rw [decide_eq_false this]
      · obtain rfl : k = n := by omega
        have hab := heq.all HN.out.symm HM.out.symm
        clear heq
        go_wp2
        go_ret
        exact ⟨ret_bool (by rw [decide_eq_true hab]), q, rfl⟩
  · have hc : ((n : Int) != m) = true := by simp; omega
    have HE := Lib.hid (show decide (a = b) = false from decide_eq_false (fun e => hnm (by rw [hn, hm, e])))
    clear hnm hn hm
    go_enter Tryd.func91, Tryd.ntmps91
    go_wp2
    go_ret
    exact ⟨ret_bool HE.out.symm, 0, rfl⟩

/-- Are two instructions the same? -/
def sameZ (i k : I) : Bool := decide (i.op = k.op) && decide (i.a = k.a) && decide (i.b = k.b) && decide (i.l = k.l)
theorem below_twoI (w : World) (i k : I) (A B : Option Addr) (c d : Nat) : Below w.heap.size w ((w.alloc (.cells (insC i A c) 25)).alloc (.cells (insC k B d) 25)) := (below_box w _).alloc (by simp) _
theorem same_no {i k : I} {w W : World} (h : ¬ (i.op = k.op ∧ i.a = k.a ∧ i.b = k.b ∧ i.l = k.l)) (hb : Below w.heap.size w W) : BoolPost (sameZ i k) w (.returned (.bool false)) W := by
  refine ⟨ret_bool ?_, hb⟩
  unfold sameZ
  by_cases h1 : i.op = k.op
  · by_cases h2 : i.a = k.a
    · by_cases h3 : i.b = k.b
      · have h4 : ¬ i.l = k.l := fun e => h ⟨h1, h2, h3, e⟩
        simp [h4]
      · simp [h3]
    · simp [h2]
  · simp [h1]
theorem op_ne {a b : UInt8} (h : a ≠ b) : ((a.toNat : Int) == b.toNat) = false := by
  simp
  intro e
  exact h (UInt8.toNat_inj.1 (by omega))
theorem op_eq (a : UInt8) : ((a.toNat : Int) == a.toNat) = true := by simp
set_option maxHeartbeats 1000000 in
theorem same_any {w : World} {A B : Option Addr} {c d : Nat} {i k : I} (ha : LiesL w A i.l) (hb : LiesL w B k.l) (na : i.l.length ≤ 100000) (nb : k.l.length ≤ 100000) :
    Calls Tryd.prog 34 #[insV i A c, insV k B d] w (BoolPost (sameZ i k) w) := by
  have HB2 := Lib.hid (below_twoI w i k A B c d)
  have HEQ := Lib.hid (equal_any (c := c) (d := d) (ha.below HB2.out) (hb.below HB2.out) na nb)
  clear ha hb
  by_cases h1 : i.op = k.op
  · have d1 : ((i.op.toNat : Int) == k.op.toNat) = true := by rw [h1]; exact op_eq _
    by_cases h2 : i.a = k.a
    · have d2 : (i.a == k.a) = true := by simpa using h2
      by_cases h3 : i.b = k.b
      · have d3 : (i.b == k.b) = true := by simpa using h3
        have HE := Lib.hid (show sameZ i k = decide (i.l = k.l) by unfold sameZ; simp [h1, h2, h3])
        clear h1 h2 h3
        go_enter Tryd.func34, Tryd.ntmps34
        go_wp2_with (go_at_call 91; go_must ((with_reducible refine HEQ.out.mono ?_); rintro e w' ⟨rfl, q, rfl⟩))
        go_ret
        exact ⟨ret_bool HE.out.symm, below_drewN HB2.out _⟩
      · have d3 : (i.b == k.b) = false := by simpa using h3
        have HNO := Lib.hid (fun W hb => same_no (i := i) (k := k) (w := w) (W := W) (fun h => h3 h.2.2.1) hb)
        clear h1 h2 h3
        go_enter Tryd.func34, Tryd.ntmps34
        go_wp2
        go_ret
        exact HNO.out _ HB2.out
    · have d2 : (i.a == k.a) = false := by simpa using h2
      have HNO := Lib.hid (fun W hb => same_no (i := i) (k := k) (w := w) (W := W) (fun h => h2 h.2.1) hb)
      clear h1 h2
      go_enter Tryd.func34, Tryd.ntmps34
      go_wp2
      go_ret
      exact HNO.out _ HB2.out
  · have d1 := op_ne h1
    have HNO := Lib.hid (fun W hb => same_no (i := i) (k := k) (w := w) (W := W) (fun h => h1 h.1) hb)
    clear h1
    go_enter Tryd.func34, Tryd.ntmps34
    go_wp2
    go_ret
    exact HNO.out _ HB2.out
set_option maxHeartbeats 2000000 in
theorem refSame_any {w : World} {A B : Option Addr} {c d : Nat} {i k : I} (ha : LiesL w A i.l) (hb : LiesL w B k.l) (na : i.l.length ≤ 100000) (nb : k.l.length ≤ 100000) :
    Calls Tryd.prog 35 #[insV i A c, insV k B d] w (BoolPost (sameZ i k) w) := by
  have HB2 := Lib.hid (below_twoI w i k A B c d)
  have HA := Lib.hid (ha.below HB2.out)
  have HB := Lib.hid (hb.below HB2.out)
  clear ha hb
  by_cases h1 : i.op = k.op
  · have d1 : ((i.op.toNat : Int) != k.op.toNat) = false := by rw [h1]; simp
    by_cases h2 : i.a = k.a
    · have d2 : (i.a != k.a) = false := by simpa using h2
      by_cases h3 : i.b = k.b
      · have d3 : (i.b != k.b) = false := by simpa using h3
        have HE := Lib.hid (show sameZ i k = decide (i.l = k.l) by unfold sameZ; simp [h1, h2, h3])
        by_cases h4 : i.l.length = k.l.length
        · have d4 : ((i.l.length : Int) != k.l.length) = false := by rw [h4]; simp
          have HL := Lib.hid h4
          clear h1 h2 h3 h4
          go_enter Tryd.func35, Tryd.ntmps35
          go_wp2
          generalize hW : ((w.alloc (.cells (insC i A c) 25)).alloc (.cells (insC k B d) 25)) = W at *
          have x3 : W.cell? ⟨w.heap.size, 3, none⟩ = some (.slice A i.l.length c) := by rw [← hW]; exact ((Whole.made w 25 (insC i A c)).alloc _).cell 3
          have y3 : W.cell? ⟨w.heap.size + 1, 3, none⟩ = some (.slice B k.l.length d) := by
            rw [← hW]
            have := Whole.made (w.alloc (.cells (insC i A c) 25)) 25 (insC k B d)
            rw [size_box] at this
            exact this.cell 3
          clear hW
          go_loopw [5] (fun s wr => ∃ j q : Nat, j ≤ i.l.length ∧ s = .int .i64 j ∧ wr = W.drewN q ∧ Eqs i.l k.l j) (fun s _ => i.l.length - (intOf s).toNat)
          case atStart => exact ⟨0, 0, Nat.zero_le _, rfl, rfl, fun j hj => absurd hj (Nat.not_lt_zero _)⟩
          case round =>
            obtain ⟨j, q, hj, rfl, rfl, heq⟩ := hrel
            by_cases hlt : j < i.l.length
            · obtain ⟨x, hx⟩ : ∃ x, i.l[j]? = some x := ⟨_, List.getElem?_eq_getElem hlt⟩
              obtain ⟨y, hy⟩ : ∃ y, k.l[j]? = some y := ⟨_, List.getElem?_eq_getElem (by rw [← HL.out]; exact hlt)⟩
              obtain ⟨b1, o1, rfl, _, g1⟩ := HA.out.at hx
              obtain ⟨b2, o2, rfl, _, g2⟩ := HB.out.at hy
              have hlt2 : j < k.l.length := by rw [← HL.out]; exact hlt
              have HE2 := Lib.hid heq
              have HX := Lib.hid hx
              have HY := Lib.hid hy
              clear heq hx hy
              by_cases hxy : x = y
              · have HXY := Lib.hid hxy
                have hc : (x != y) = false := by simpa using hxy
                clear hxy
                go_wp2_with fail
                go_region
                go_wp2
                go_roundw
                case measure => simp [intOf]; omega
                case rel =>
                  refine ⟨j + 1, q + 1, by omega, by go_num, rfl, fun u hu => ?_⟩
                  by_cases e : u = j
                  · subst e
                    rw [HX.out, HY.out, HXY.out]
                  · exact HE2.out u (by omega)
              · have HXY := Lib.hid hxy
                have hc : (x != y) = true := by simpa using hxy
                clear hxy
                go_wp2_with fail
                go_region
                go_wp2
                go_ret
                refine ⟨ret_bool ?_, below_drewN HB2.out _⟩
                have : ¬ i.l = k.l := fun e => HXY.out (by have h1 := HX.out; have h2 := HY.out; rw [e, h2] at h1; injection h1 with h1; exact h1.symm)
                rw [HE.out, decide_eq_false this]
            · have hjj : j = i.l.length := by omega
              subst hjj
              have hab : i.l = k.l := heq.all rfl HL.out.symm
              clear heq
              go_wp2
              go_ret
              exact ⟨ret_bool (by rw [HE.out, decide_eq_true hab]), below_drewN HB2.out _⟩
        · have d4 : ((i.l.length : Int) != k.l.length) = true := by simp; omega
          have HNO := Lib.hid (fun W hb => same_no (i := i) (k := k) (w := w) (W := W) (fun h => h4 (by rw [h.2.2.2])) hb)
          clear h1 h2 h3 h4
          go_enter Tryd.func35, Tryd.ntmps35
          go_wp2
          go_ret
          exact HNO.out _ HB2.out
      · have d3 : (i.b != k.b) = true := by simpa using h3
        have HNO := Lib.hid (fun W hb => same_no (i := i) (k := k) (w := w) (W := W) (fun h => h3 h.2.2.1) hb)
        clear h1 h2 h3
        go_enter Tryd.func35, Tryd.ntmps35
        go_wp2
        go_ret
        exact HNO.out _ HB2.out
    · have d2 : (i.a != k.a) = true := by simpa using h2
      have HNO := Lib.hid (fun W hb => same_no (i := i) (k := k) (w := w) (W := W) (fun h => h2 h.2.1) hb)
      clear h1 h2
      go_enter Tryd.func35, Tryd.ntmps35
      go_wp2
      go_ret
      exact HNO.out _ HB2.out
  · have d1 : ((i.op.toNat : Int) != k.op.toNat) = true := by have := op_ne h1; simp at this ⊢; exact this
    have HNO := Lib.hid (fun W hb => same_no (i := i) (k := k) (w := w) (W := W) (fun h => h1 h.1) hb)
    clear h1
    go_enter Tryd.func35, Tryd.ntmps35
    go_wp2
    go_ret
    exact HNO.out _ HB2.out
end Go.Proofs.YticgmfeihdankaaDoor

/- The walk of ConstsPuts. -/
namespace Go.Proofs.YticgmfeihdankaaDoor
open Go.RowKit
set_option linter.unusedVariables false
set_option maxRecDepth 100000

/-- What the laws keep of an instruction: its box, its labels; the tables. -/
structure CSt (w : World) (i : I) (A : Option Addr) (c : Nat) (W : World) : Prop where
  tb : Tabs W
  box : BoxI w W i A c
  li : LiesL W A i.l
section
variable {w W W' : World} {i : I} {A : Option Addr} {c : Nat} {v : Value} {xs : List UInt8}
theorem CSt.on (h : CSt w i A c W) (hb : Below W.heap.size W W') : CSt w i A c W' := ⟨h.tb.below hb, h.box.on hb, h.li.below hb⟩
theorem CSt.start (hT : Tabs w) (hi : LiesL w A i.l) : CSt w i A c (w.alloc (.cells (insC i A c) 25)) :=
  ⟨hT.below (below_box _ _), BoxI.start w i A c, hi.below (below_box _ _)⟩
theorem CSt.bel (h : CSt w i A c W) : Below w.heap.size w W := h.box.2
/-- .. and bytes that were made. -/
structure CLb (w : World) (i : I) (A : Option Addr) (c : Nat) (v : Value) (xs : List UInt8) (W : World) : Prop where
  a : CSt w i A c W
  r : Row W w.heap.size v xs
theorem CLb.on (h : CLb w i A c v xs W) (hb : Below W.heap.size W W') : CLb w i A c v xs W' := ⟨h.a.on hb, h.r.later hb⟩
abbrev Five (w : World) (i : I) (A : Option Addr) (c : Nat) (Ab : Option Addr) (cb : Nat) (xs : List UInt8) (W : World) : Prop :=
  (W.cell? ⟨w.heap.size, 0, none⟩ = some (.int .u8 i.op.toNat) ∧ W.cell? ⟨w.heap.size, 1, none⟩ = some (.int .u64 i.a) ∧ W.cell? ⟨w.heap.size, 2, none⟩ = some (.int .u64 i.b) ∧ W.cell? ⟨w.heap.size, 3, none⟩ = some (.slice A i.l.length c)) ∧
  (convert 30 9 (.slice Ab xs.length cb)).run Tryd.prog W = .ok (.string (S xs)) W
theorem CLb.five {Ab : Option Addr} {cb : Nat} (h : CLb w i A c (.slice Ab xs.length cb) xs W) : CLb w i A c (.slice Ab xs.length cb) xs W ∧ Five w i A c Ab cb xs W := by
  obtain ⟨A', c', e, hc⟩ := h.r.str
  injection e with e1 e2 e3
  subst e1; subst e3
  exact ⟨h, ⟨h.a.box.c0, h.a.box.c1, h.a.box.c2, h.a.box.c3⟩, hc 9 Tryd.underlying9⟩
end
theorem same_self (i : I) : sameZ i i = true := by unfold sameZ; simp
theorem gIns_same (n : Int) (w : World) : Calls Tryd.prog 35 #[.agg #[.int .u8 35, .int .u64 n, .int .u64 0, .slice none 0 0], .agg #[.int .u8 35, .int .u64 n, .int .u64 0, .slice none 0 0]] w (BoolPost true w) := by
  have := refSame_any (w := w) (A := none) (B := none) (c := 0) (d := 0) (i := gIns n) (k := gIns n) (fun j v hv => by simp [cells32] at hv) (fun j v hv => by simp [cells32] at hv) (by simp) (by simp)
  rw [same_self] at this
  exact this

set_option maxHeartbeats 3000000 in
theorem lawCP {w : World} {i : I} {A : Option Addr} {c : Nat} {n : Int} (hT : Tabs w) (oi : i.Ok) (hi : LiesL w A i.l) (ni : (i.l.length : Int) ≤ 9223372036854775807) (n0 : 0 ≤ n) (n1 : n ≤ 4294967295) :
    Calls Tryd.prog 8 #[insV i A c, .int .u32 n] w (BoolPost true w) := by
  have h0 : CSt w i A c (w.alloc (.cells (insC i A c) 25)) := .start hT hi
  have HAW := Lib.hid (cawake_any _ h0.tb)
  have H0 := Lib.hid h0
  clear h0 hT hi
  by_cases g1 : 200 < i.l.length
  · have t1 : decide (200 < (i.l.length : Int)) = true := decide_eq_true (by omega)
    go_enter Tryd.func8, Tryd.ntmps8
    go_wp2_with (go_at_call 43; go_must ((with_reducible refine HAW.out.mono ?_); rintro e w1 ⟨rfl, hb⟩; have H1 := Lib.hid (H0.out.on hb); have c3 := H1.out.box.c3; clear hb))
    go_ret
    exact ⟨rfl, H1.out.bel⟩
  have t1 : decide (200 < (i.l.length : Int)) = false := decide_eq_false (by omega)
  have hw : IntKind.u64.wrap n = n := by simp [IntKind.wrap, IntKind.bits, IntKind.signed]; omega
  have HRR := Lib.hid (fun W => rcright_any i A c W oi ni)
  have HCR := Lib.hid (fun W (h : Tabs W) => cright_any i A c W oi h ni)
  have HGL := Lib.hid (fun W => cglobal_any n W n0 n1)
  have HSG := Lib.hid (fun W => gIns_same n W)
  obtain ⟨xs, hxs⟩ : ∃ xs, xs = (if crightZ i = 0 then putL i ++ [11] else []) := ⟨_, rfl⟩
  have HPU := Lib.hid (fun W (h : Tabs W) (hl : LiesL W A i.l) => show Calls Tryd.prog 45 #[insV i A c] W fun e w' => ∃ v, e = .returned (.tuple #[v, .int .i64 (crightZ i)]) ∧ Row w' W.heap.size v xs ∧ Below W.heap.size W w' from
    (cput_any i A c W oi h hl ni).mono fun e w' ⟨v, h1, h2, h3⟩ => ⟨v, h1, by rw [hxs]; exact h2, h3⟩)
  have HZ0 := Lib.hid (fun (h : crightZ i = 0) => show ∀ W, LiesL W A i.l → Calls Tryd.prog 48 #[insV i A c] W (StrPost xs W) from fun W hl => by
    have := rcput_any i A c W oi (cr_zero h).1 hl
    rw [hxs, if_pos h]
    exact this)
  have HZ1 := Lib.hid (fun (h : ¬ crightZ i = 0) => show xs.length = 0 by rw [hxs, if_neg h]; rfl)
  obtain ⟨z, hz⟩ : ∃ z, z = crightZ i := ⟨_, rfl⟩
  rw [← hz] at HRR HCR HPU HZ0 HZ1
  clear hz hxs g1 n0 n1 oi
  go_enter Tryd.func8, Tryd.ntmps8
  go_wp2_with (first
    | (go_at_call 43; go_must ((with_reducible refine HAW.out.mono ?_); rintro e w1 ⟨rfl, hb⟩; have H1 := Lib.hid (H0.out.on hb); have c0 := H1.out.box.c0; have c1 := H1.out.box.c1; have c2 := H1.out.box.c2; have c3 := H1.out.box.c3; clear hb))
    | (go_at_call 44; go_must ((with_reducible refine (HRR.out _).mono ?_); rintro e w2 ⟨rfl, hb⟩; clear c0 c1 c2 c3; have H2 := Lib.hid (H1.out.on hb); have c0 := H2.out.box.c0; have c1 := H2.out.box.c1; have c2 := H2.out.box.c2; have c3 := H2.out.box.c3; clear hb))
    | (go_at_call 45; go_must ((with_reducible refine (HPU.out _ H2.out.tb H2.out.li).mono ?_); intro e w3 hq; obtain ⟨v, rfl, hr, hb⟩ := hq; clear c0 c1 c2 c3; obtain ⟨Ab, cb, rfl, _, _⟩ := hr.liesN; have H3 := Lib.hid (show CLb w i A c (.slice Ab xs.length cb) xs w3 from ⟨H2.out.on hb, hr.mono H2.out.bel.size⟩); clear hb hr))
    | (go_at_call 46; go_must ((with_reducible refine (HGL.out _).mono ?_); rintro e w4 ⟨rfl, hb⟩; have H5 := Lib.hid ((H3.out.on hb).on (below_box w4 (.cells #[.int .u8 35, .int .u64 n, .int .u64 0, .slice none 0 0] 25))); have HX5 := Lib.hid (Whole.made w4 25 #[.int .u8 35, .int .u64 n, .int .u64 0, .slice none 0 0]); have c0 := H5.out.a.box.c0; have c1 := H5.out.a.box.c1; have c2 := H5.out.a.box.c2; have c3 := H5.out.a.box.c3; clear hb))
    | (go_at_call 47; go_must ((with_reducible refine (HCR.out _ H5.out.a.tb).mono ?_); rintro e w6 ⟨rfl, hb⟩; clear c0 c1 c2 c3; have H6 := Lib.hid (H5.out.on hb); have HX6 := Lib.hid (HX5.out.below hb); have x0 := HX6.out.cell 0; have x1 := HX6.out.cell 1; have x2 := HX6.out.cell 2; have x3 := HX6.out.cell 3; simp only [List.getElem?_toArray, List.getElem?_cons_zero, List.getElem?_cons_succ] at x0 x1 x2 x3; clear hb))
    | (go_at_call 35; go_must ((with_reducible refine (HSG.out _).mono ?_); rintro e w7 ⟨rfl, hb⟩; have H7 := Lib.hid (H6.out.on hb); clear hb x0 x1 x2 x3)))
  by_cases h0 : z = 0
  · have HRP := Lib.hid (HZ0.out h0)
    subst h0
    clear HZ0 HZ1 HPU HCR HRR
    refine wp_region_noPanic ?_
    refine wp_region_held_drew (S := fun W => CLb w i A c (.slice Ab xs.length cb) xs W ∧ Five w i A c Ab cb xs W) (by kernel_rfl) (CLb.five (H7.out.on (Below.refl _ _).drew)) (fun hHeld => ?_)
    (refine heldTake (i := 0) (oi := { dst := some 41, op := Op.move (Operand.tmp 5), type := 3, pos := "law.go:35", after := #[], guard := none }) (v := ?_) rfl (by kernel_rfl) (by kernel_rfl) (by kernel_rfl) (by assumption) ?_ ?_; rotate_left; focus (refine .inl ⟨by kernel_rfl, ?_⟩; intro w hSw; (try dsimp only at hSw); go_simp; (try with_reducible rfl)); (try simp only [Act.put, List.setIfInBounds_toArray, List.set_cons_zero, List.set_cons_succ]))
    (refine heldTake (i := 1) (oi := { dst := some 42, op := Op.binOp BinOp.neq 3 (Operand.tmp 41) (Operand.const (Value.int IntKind.i64 0)) 3, type := 4, pos := "law.go:35", after := #[{ on := 0, ground := Ground.data }], guard := none }) (v := ?_) rfl (by kernel_rfl) (by kernel_rfl) (by kernel_rfl) (by assumption) ?_ ?_; rotate_left; focus (refine .inl ⟨by kernel_rfl, ?_⟩; intro w hSw; (try dsimp only at hSw); go_simp; (try with_reducible rfl)); (try simp only [Act.put, List.setIfInBounds_toArray, List.set_cons_zero, List.set_cons_succ]))
    (refine heldTake (i := 2) (oi := { dst := some 43, op := Op.move (Operand.tmp 42), type := 4, pos := "law.go:35", after := #[{ on := 1, ground := Ground.data }], guard := none }) (v := ?_) rfl (by kernel_rfl) (by kernel_rfl) (by kernel_rfl) (by assumption) ?_ ?_; rotate_left; focus (refine .inl ⟨by kernel_rfl, ?_⟩; intro w hSw; (try dsimp only at hSw); go_simp; (try with_reducible rfl)); (try simp only [Act.put, List.setIfInBounds_toArray, List.set_cons_zero, List.set_cons_succ]))
    (refine heldTake (i := 3) (oi := { dst := some 44, op := Op.move (Operand.tmp 6), type := 30, pos := "law.go:35", after := #[{ on := 2, ground := Ground.guard }], guard := some (2, true) }) (v := undef) rfl (by kernel_rfl) (by kernel_rfl) (by kernel_rfl) (by assumption) (.inr ⟨by kernel_rfl, rfl⟩) ?_; (try simp only [Act.put, List.setIfInBounds_toArray, List.set_cons_zero, List.set_cons_succ]))
    (refine heldTake (i := 4) (oi := { dst := some 45, op := Op.call { callee := Callee.builtin Builtin.len, args := #[Operand.tmp 44], argTypes := #[30] }, type := 3, pos := "law.go:35", after := #[{ on := 3, ground := Ground.data }, { on := 2, ground := Ground.guard }], guard := some (2, true) }) (v := undef) rfl (by kernel_rfl) (by kernel_rfl) (by kernel_rfl) (by assumption) (.inr ⟨by kernel_rfl, rfl⟩) ?_; (try simp only [Act.put, List.setIfInBounds_toArray, List.set_cons_zero, List.set_cons_succ]))
    (refine heldTake (i := 5) (oi := { dst := some 46, op := Op.binOp BinOp.eql 3 (Operand.tmp 45) (Operand.const (Value.int IntKind.i64 0)) 3, type := 4, pos := "law.go:35", after := #[{ on := 4, ground := Ground.data }, { on := 2, ground := Ground.guard }], guard := some (2, true) }) (v := undef) rfl (by kernel_rfl) (by kernel_rfl) (by kernel_rfl) (by assumption) (.inr ⟨by kernel_rfl, rfl⟩) ?_; (try simp only [Act.put, List.setIfInBounds_toArray, List.set_cons_zero, List.set_cons_succ]))
    (refine heldTake (i := 6) (oi := { dst := some 47, op := Op.pick (Operand.tmp 43) (Operand.tmp 46) (Operand.const (Value.bool false)), type := 4, pos := "law.go:35", after := #[{ on := 2, ground := Ground.data }, { on := 5, ground := Ground.data }], guard := none }) (v := ?_) rfl (by kernel_rfl) (by kernel_rfl) (by kernel_rfl) (by assumption) ?_ ?_; rotate_left; focus (refine .inl ⟨by kernel_rfl, ?_⟩; intro w hSw; (try dsimp only at hSw); go_simp; (try with_reducible rfl)); (try simp only [Act.put, List.setIfInBounds_toArray, List.set_cons_zero, List.set_cons_succ]))
    (refine heldTake (i := 7) (oi := { dst := some 48, op := Op.move (Operand.tmp 47), type := 4, pos := "law.go:35", after := #[{ on := 6, ground := Ground.data }, { on := 2, ground := Ground.chain }], guard := none }) (v := ?_) rfl (by kernel_rfl) (by kernel_rfl) (by kernel_rfl) (by assumption) ?_ ?_; rotate_left; focus (refine .inl ⟨by kernel_rfl, ?_⟩; intro w hSw; (try dsimp only at hSw); go_simp; (try with_reducible rfl)); (try simp only [Act.put, List.setIfInBounds_toArray, List.set_cons_zero, List.set_cons_succ]))
    (refine heldTake (i := 8) (oi := { dst := some 49, op := Op.move (Operand.tmp 5), type := 3, pos := "law.go:35", after := #[{ on := 7, ground := Ground.guard }], guard := some (7, false) }) (v := ?_) rfl (by kernel_rfl) (by kernel_rfl) (by kernel_rfl) (by assumption) ?_ ?_; rotate_left; focus (refine .inl ⟨by kernel_rfl, ?_⟩; intro w hSw; (try dsimp only at hSw); go_simp; (try with_reducible rfl)); (try simp only [Act.put, List.setIfInBounds_toArray, List.set_cons_zero, List.set_cons_succ]))
    (refine heldTake (i := 9) (oi := { dst := some 50, op := Op.binOp BinOp.eql 3 (Operand.tmp 49) (Operand.const (Value.int IntKind.i64 0)) 3, type := 4, pos := "law.go:35", after := #[{ on := 8, ground := Ground.data }, { on := 7, ground := Ground.guard }], guard := some (7, false) }) (v := ?_) rfl (by kernel_rfl) (by kernel_rfl) (by kernel_rfl) (by assumption) ?_ ?_; rotate_left; focus (refine .inl ⟨by kernel_rfl, ?_⟩; intro w hSw; (try dsimp only at hSw); go_simp; (try with_reducible rfl)); (try simp only [Act.put, List.setIfInBounds_toArray, List.set_cons_zero, List.set_cons_succ]))
    (refine heldTake (i := 10) (oi := { dst := some 51, op := Op.move (Operand.tmp 50), type := 4, pos := "law.go:35", after := #[{ on := 9, ground := Ground.data }, { on := 7, ground := Ground.chain }, { on := 7, ground := Ground.guard }], guard := some (7, false) }) (v := ?_) rfl (by kernel_rfl) (by kernel_rfl) (by kernel_rfl) (by assumption) ?_ ?_; rotate_left; focus (refine .inl ⟨by kernel_rfl, ?_⟩; intro w hSw; (try dsimp only at hSw); go_simp; (try with_reducible rfl)); (try simp only [Act.put, List.setIfInBounds_toArray, List.set_cons_zero, List.set_cons_succ]))
    (refine heldTake (i := 11) (oi := { dst := some 52, op := Op.move (Operand.tmp 6), type := 30, pos := "law.go:35", after := #[{ on := 10, ground := Ground.guard }], guard := some (10, true) }) (v := ?_) rfl (by kernel_rfl) (by kernel_rfl) (by kernel_rfl) (by assumption) ?_ ?_; rotate_left; focus (refine .inl ⟨by kernel_rfl, ?_⟩; intro w hSw; (try dsimp only at hSw); go_simp; (try with_reducible rfl)); (try simp only [Act.put, List.setIfInBounds_toArray, List.set_cons_zero, List.set_cons_succ]))
    (refine heldTake (i := 12) (oi := { dst := some 53, op := Op.convert 30 9 (Operand.tmp 52), type := 9, pos := "law.go:35", after := #[{ on := 11, ground := Ground.data }, { on := 10, ground := Ground.guard }], guard := some (10, true) }) (v := ?_) rfl (by kernel_rfl) (by kernel_rfl) (by kernel_rfl) (by assumption) ?_ ?_; rotate_left; focus (refine .inl ⟨by kernel_rfl, ?_⟩; intro w hSw; (try dsimp only at hSw); go_simp; (try with_reducible rfl)); (try simp only [Act.put, List.setIfInBounds_toArray, List.set_cons_zero, List.set_cons_succ]))
    (refine heldTake (i := 13) (oi := { dst := some 54, op := Op.load 25 (Operand.tmp 2), type := 25, pos := "law.go:35", after := #[{ on := 10, ground := Ground.guard }], guard := some (10, true) }) (v := ?_) rfl (by kernel_rfl) (by kernel_rfl) (by kernel_rfl) (by assumption) ?_ ?_; rotate_left; focus (refine .inl ⟨by kernel_rfl, ?_⟩; intro w hSw; (try dsimp only at hSw); go_simp; (try with_reducible rfl)); (try simp only [Act.put, List.setIfInBounds_toArray, List.set_cons_zero, List.set_cons_succ]))
    refine wpAnyH_ready (rs := [14]) (by kernel_rfl) (by simp) ?_
    refine AllReadyH.cons (o := { dst := some 55, op := Op.call { callee := Callee.value (Operand.func 48), args := #[Operand.tmp 54], argTypes := #[25] }, type := 9, pos := "law.go:35", after := #[{ on := 13, ground := Ground.data }, { on := 10, ground := Ground.chain }, { on := 10, ground := Ground.guard }], guard := some (10, true) }) rfl (fun K hK => ?_) AllReadyH.nil
    go_simp
    (go_at_call 48; (with_reducible refine (HRP.out _ (And.left hHeld).a.li).mono ?_); rintro e w8 ⟨rfl, hb⟩; have hk8 := CLb.five (CLb.on (And.left hHeld) hb); clear hb)
    refine hK.out _ _ hk8 (fun hHeld14 => ?_)
    clear hK K hHeld
    (try simp only [Act.put, List.setIfInBounds_toArray, List.set_cons_zero, List.set_cons_succ])
    (refine heldTake (i := 15) (oi := { dst := some 56, op := Op.binOp BinOp.eql 9 (Operand.tmp 53) (Operand.tmp 55) 9, type := 4, pos := "law.go:35", after := #[{ on := 12, ground := Ground.data }, { on := 14, ground := Ground.data }, { on := 10, ground := Ground.guard }], guard := some (10, true) }) (v := ?_) rfl (by kernel_rfl) (by kernel_rfl) (by kernel_rfl) (by assumption) ?_ ?_; rotate_left; focus (refine .inl ⟨by kernel_rfl, ?_⟩; intro w hSw; (try dsimp only at hSw); go_simp; (try with_reducible rfl)); (try simp only [Act.put, List.setIfInBounds_toArray, List.set_cons_zero, List.set_cons_succ]))
    (refine heldTake (i := 16) (oi := { dst := some 57, op := Op.pick (Operand.tmp 51) (Operand.tmp 56) (Operand.const (Value.bool false)), type := 4, pos := "law.go:35", after := #[{ on := 10, ground := Ground.data }, { on := 15, ground := Ground.data }, { on := 7, ground := Ground.guard }], guard := some (7, false) }) (v := ?_) rfl (by kernel_rfl) (by kernel_rfl) (by kernel_rfl) (by assumption) ?_ ?_; rotate_left; focus (refine .inl ⟨by kernel_rfl, ?_⟩; intro w hSw; (try dsimp only at hSw); go_simp; (try with_reducible rfl)); (try simp only [Act.put, List.setIfInBounds_toArray, List.set_cons_zero, List.set_cons_succ]))
    (refine heldTake (i := 17) (oi := { dst := some 58, op := Op.pick (Operand.tmp 48) (Operand.const (Value.bool true)) (Operand.tmp 57), type := 4, pos := "law.go:35", after := #[{ on := 7, ground := Ground.data }, { on := 16, ground := Ground.data }], guard := none }) (v := ?_) rfl (by kernel_rfl) (by kernel_rfl) (by kernel_rfl) (by assumption) ?_ ?_; rotate_left; focus (refine .inl ⟨by kernel_rfl, ?_⟩; intro w hSw; (try dsimp only at hSw); go_simp; (try with_reducible rfl)); (try simp only [Act.put, List.setIfInBounds_toArray, List.set_cons_zero, List.set_cons_succ]))
    (refine heldTake (i := 18) (oi := { dst := some 4, op := Op.assign (Operand.tmp 58), type := 4, pos := "law.go:35", after := #[{ on := 17, ground := Ground.data }, { on := 14, ground := Ground.chain }, { on := 0, ground := Ground.phase }, { on := 1, ground := Ground.phase }, { on := 2, ground := Ground.phase }, { on := 3, ground := Ground.phase }, { on := 4, ground := Ground.phase }, { on := 5, ground := Ground.phase }, { on := 6, ground := Ground.phase }, { on := 7, ground := Ground.phase }, { on := 8, ground := Ground.phase }, { on := 9, ground := Ground.phase }, { on := 10, ground := Ground.phase }, { on := 11, ground := Ground.phase }, { on := 12, ground := Ground.phase }, { on := 13, ground := Ground.phase }, { on := 14, ground := Ground.phase }, { on := 15, ground := Ground.phase }, { on := 16, ground := Ground.phase }, { on := 17, ground := Ground.phase }], guard := none }) (v := ?_) rfl (by kernel_rfl) (by kernel_rfl) (by kernel_rfl) (by assumption) ?_ ?_; rotate_left; focus (refine .inl ⟨by kernel_rfl, ?_⟩; intro w hSw; (try dsimp only at hSw); go_simp; (try with_reducible rfl)); (try simp only [Act.put, List.setIfInBounds_toArray, List.set_cons_zero, List.set_cons_succ]))
    refine wpAnyH_done (by kernel_rfl) ?_ _
    refine NoPanic.normal ?_
    have hLast := hHeld14
    clear hHeld14
    go_wp2
    go_ret
    exact ⟨rfl, (And.left hLast).a.bel⟩
  · have hx := HZ1.out h0
    have dz : (z != 0) = true := by simpa using h0
    have dx : ((xs.length : Int) == 0) = true := by rw [hx]; rfl
    clear HZ0 HZ1 HPU HCR HRR h0 hx
    go_quiet (fail)
    go_wp2
    go_ret
    exact ⟨rfl, below_drewN H7.out.a.bel _⟩
end Go.Proofs.YticgmfeihdankaaDoor

/- creelref12.GetAll of any bytes; creelref12.Same. -/
namespace Go.Proofs.YticgmfeihdankaaDoor
open Go.RowKit
set_option linter.unusedVariables false
set_option maxRecDepth 100000

/-- What holds at the head of the reference's loop. -/
structure BInG (w : World) (q : Nat) (l : List UInt8) (s : RSt) (xs : List SlotG) (v : Value) (W : World) : Prop where
  rs : Rs W q l s
  g : w.grownBy W (some q)
  r : RowG W w.heap.size v xs
section
variable {w W W' : World} {q : Nat} {l : List UInt8} {s s' : RSt} {xs : List SlotG} {x : SlotG} {v v' : Value}
theorem BInG.step (h : BInG w q l s xs v W) (hq : q < w.heap.size) (hg : W.grownBy W' (some q)) (hs : Rs W' q l s') : BInG w q l s' xs v W' :=
  ⟨hs, gb_trans h.g hg, h.r.past hg hq⟩
theorem BInG.alloc (h : BInG w q l s xs v W) (hq : q < w.heap.size) (o : Obj) : BInG w q l s xs v (W.alloc o) := h.step hq (gb_alloc (gb_refl _ _) o) (h.rs.alloc o)
theorem BInG.more (h : BInG w q l s xs v W) (hq : q < w.heap.size) (hg : W.grownBy W' v.ownBlock) (hr : RowG W' w.heap.size v' (xs ++ [x])) : BInG w q l s (xs ++ [x]) v' W' := by
  have hlt := World.ownsRow.lt h.r
  exact ⟨h.rs.grown hg (fun e => by have := hlt q e.symm; omega) (fun g e => by have := hlt g e; omega), gb_before h.g hg (fun g e => .inr (hlt g e).1), hr⟩
end
/-- How far the list is. -/
def GInv (l : List UInt8) (n j : Nat) (s : RSt) (rows : List SlotG) (R : Res (List Gl)) : Prop := match s with
  | .at k => gsK l (n - j) k (rows.map (·.1)) = R
  | .bad c a => R = .err c a
theorem GInv.step {l : List UInt8} {n j k : Nat} {rows : List SlotG} {R : Res (List Gl)} (h : GInv l n j (.at k) rows R) (hlt : j < n) {x : Gl} {A : Option Addr} {c : Nat} (hv : ∀ y k2, gR l k = .ok y k2 → x = y) :
    GInv l n (j + 1) (stOf (gR l k)) (rows ++ [(x, A, c)]) R := by
  have h1 : gsK l (n - j) k (rows.map (·.1)) = R := h
  rw [gsK_more hlt] at h1
  cases hg : gR l k with
  | err c a =>
    rw [hg, Res.bind_err] at h1
    exact h1.symm
  | ok y k2 =>
    rw [hg, Res.bind_ok] at h1
    obtain rfl := hv y k2 hg
    show gsK l (n - (j + 1)) k2 ((rows ++ [(x, A, c)]).map (·.1)) = R
    rw [List.map_append]
    exact h1
/-- What creelref12.GetAll leaves behind. -/
def RGotAllG (q : Nat) (l : List UInt8) (r : Res (List Gl)) (w : World) (e : Ending) (w' : World) : Prop := match r with
  | .ok xs k => ∃ v rows, e = .returned v ∧ RowG w' w.heap.size v rows ∧ rows.map (·.1) = xs ∧ Rs w' q l (.at k) ∧ w.grownBy w' (some q)
  | .err c a => e = .returned (.slice none 0 0) ∧ Rs w' q l (.bad c a) ∧ w.grownBy w' (some q)
/-- Same, of two that are alike and have no labels. -/
theorem rsame_gl {w : World} {x : Gl} {A B : Option Addr} {c d : Nat} (hx : x.i.l = []) :
    Calls Tryd.prog 68 #[glV x A c, glV x B d] w (BoolPost true w) := by
  have H1 := bxG_start w x A c
  have hb2 : Below w.heap.size w ((w.alloc (.cells (glC x A c) 103)).alloc (.cells (glC x B d) 103)) := (below_box w _).alloc (by simp) _
  have hS := refSame_any (w := (w.alloc (.cells (glC x A c) 103)).alloc (.cells (glC x B d) 103)) (A := A) (B := B) (c := c) (d := d) (i := x.i) (k := x.i) (by rw [hx]; intro j v hv; simp [cells32] at hv) (by rw [hx]; intro j v hv; simp [cells32] at hv) (by rw [hx]; simp) (by rw [hx]; simp)
  rw [same_self] at hS
  have HS := Lib.hid hS
  have HB := Lib.hid hb2
  clear hS hb2 H1 hx
  go_enter Tryd.func68, Tryd.ntmps68
  go_wp2_with (go_at_call 35; go_must ((with_reducible refine HS.out.mono ?_); rintro e w2 ⟨rfl, hb⟩; have HB2 := Lib.hid hb; clear hb))
  go_ret
  exact ⟨rfl, HB.out.trans (HB2.out.mono HB.out.size)⟩
end Go.Proofs.YticgmfeihdankaaDoor

/- abort.Value of a function that ends well, whatever it hands back: []api.Global. Value of one that aborts. -/
namespace Go.Proofs.YticgmfeihdankaaDoor
open Go.RowKit
set_option linter.unusedVariables false
set_option maxRecDepth 100000

section
variable {T : (Option Addr × Nat × Nat) → World → Prop}
end
end Go.Proofs.YticgmfeihdankaaDoor

/- abort.Value of a function that ends well, whatever it hands back: api.Global. (By gen/genVal.py.) -/
namespace Go.Proofs.YticgmfeihdankaaDoor
open Go.RowKit
set_option linter.unusedVariables false
set_option maxRecDepth 100000

theorem cfVG (cap : Array Value) (w : World) : (callFunc 110 cap).run Tryd.prog w = .ok (.enter 110 cap) w := by kernel_rfl
section
variable {T : SlotG → World → Prop}
/-- Value's own closure: what the step hands back lies in its cell. -/
theorem valClosG {g : FuncId} {cap : Array Value} {b1 b4 q : Nat} {w : World} {z : Array Value} (hz : z.size = 6) (hcf : ∀ w : World, (callFunc g cap).run Tryd.prog w = .ok (.enter g cap) w)
    (h1 : Whole w b1 110 #[.func (.func g) #[] cap]) (h4 : Whole w b4 103 #[.int .u8 0, .bool false, .int .u8 0, .int .u64 0, .int .u64 0, .slice none 0 0]) (hb : q < b4) (hT : ∀ x W W', T x W → W.grownBy W' (some b4) → T x W')
    (h : Calls Tryd.prog g cap w fun e w' => ∃ x, e = .returned (sV x) ∧ T x w' ∧ w.grownBy w' (some q)) :
    Calls Tryd.prog 110 #[.pointer (some ⟨b1, 0, none⟩), .pointer (some ⟨b4, 0, none⟩)] w fun e w' =>
      e = .returned (.tuple #[]) ∧ ∃ x, T x w' ∧ Whole w' b4 103 #[.int .u8 x.1.t.toNat, .bool x.1.m, .int .u8 x.1.i.op.toNat, .int .u64 x.1.i.a, .int .u64 x.1.i.b, .slice x.2.1 x.1.i.l.length x.2.2] ∧ ∃ w1, w.grownBy w1 (some q) ∧ w1.grownBy w' (some b4) := by
  have hnil : ∀ w : World, (binOp BinOp.neq 110 (.func (.func g) #[] cap) .nilFunc).run Tryd.prog w = .ok (.bool true) w := fun _ => by kernel_rfl
  have c1 := h1.cell 0
  simp only [List.getElem?_toArray, List.getElem?_cons_zero] at c1
  have HH := Lib.hid h
  have H4 := Lib.hid h4
  have HT := Lib.hid hT
  clear h h1 h4 hT
  go_enter Tryd.func110, Tryd.ntmps110
  go_wp2_with fail
  refine HH.out.mono ?_
  rintro e w1 ⟨x, rfl, hs, hg⟩
  have HW := H4.out.grown hg (by simp only [ne_eq, Option.some.injEq]; omega)
  have k0 := HW.cell 0
  have k1 := HW.cell 1
  have k2 := HW.cell 2
  have k3 := HW.cell 3
  have k4 := HW.cell 4
  have k5 := HW.cell 5
  have f0 := HW.frozen 0
  have f1 := HW.frozen 1
  have f2 := HW.frozen 2
  have f3 := HW.frozen 3
  have f4 := HW.frozen 4
  have f5 := HW.frozen 5
  simp only [List.getElem?_toArray, List.getElem?_cons_zero, List.getElem?_cons_succ] at k0 k1 k2 k3 k4 k5
  obtain ⟨p1, p2⟩ := put6 (u0 := .int .u8 x.1.t.toNat) (u1 := .bool x.1.m) (u2 := .int .u8 x.1.i.op.toNat) (u3 := .int .u64 x.1.i.a) (u4 := .int .u64 x.1.i.b) (u5 := .slice x.2.1 x.1.i.l.length x.2.2) HW
  have F : Hid (T x ((((((w1.setCell ⟨b4, 0, none⟩ (.int .u8 x.1.t.toNat)).setCell ⟨b4, 1, none⟩ (.bool x.1.m)).setCell ⟨b4, 2, none⟩ (.int .u8 x.1.i.op.toNat)).setCell ⟨b4, 3, none⟩ (.int .u64 x.1.i.a)).setCell ⟨b4, 4, none⟩ (.int .u64 x.1.i.b)).setCell ⟨b4, 5, none⟩ (.slice x.2.1 x.1.i.l.length x.2.2))) := HT.out _ _ _ hs p2
  have P1 := Lib.hid p1
  have P2 := Lib.hid p2
  have HG := Lib.hid hg
  clear p1 p2 hs hg HW hcf
  go_wp2_with fail
  go_end0
  exact ⟨rfl, x, F.out, P1.out, w1, HG.out, P2.out⟩
/-- What Value's closure leaves behind, seen from Value's beginning. -/
structure VSG (T : SlotG → World → Prop) (w : World) (q : Nat) (x : SlotG) (w1 : World) : Prop where
  kept : T x w1
  grown : w.grownBy w1 (some q)
  val : Whole w1 (w.heap.size + 3) 103 #[.int .u8 x.1.t.toNat, .bool x.1.m, .int .u8 x.1.i.op.toNat, .int .u64 x.1.i.a, .int .u64 x.1.i.b, .slice x.2.1 x.1.i.l.length x.2.2]
  r1 : Whole w1 (w.heap.size + 1) 103 #[.int .u8 0, .bool false, .int .u8 0, .int .u64 0, .int .u64 0, .slice none 0 0]
  r2 : Whole w1 (w.heap.size + 2) 38 #[.int .i64 0, .int .i64 0]
/-- The world in which Value calls Out. -/
def vWorldG (g : FuncId) (cap : Array Value) (w : World) : World :=
  (((w.alloc (.cells #[.func (.func g) #[] cap] 110)).alloc (.cells #[.int .u8 0, .bool false, .int .u8 0, .int .u64 0, .int .u64 0, .slice none 0 0] 103)).alloc (.cells #[.int .i64 0, .int .i64 0] 38)).alloc (.cells #[.int .u8 0, .bool false, .int .u8 0, .int .u64 0, .int .u64 0, .slice none 0 0] 103)
theorem vWorld_factsG (g : FuncId) (cap : Array Value) (w : World) : (vWorldG g cap w).heap.size = w.heap.size + 4 ∧ Whole (vWorldG g cap w) w.heap.size 110 #[.func (.func g) #[] cap] ∧
    Whole (vWorldG g cap w) (w.heap.size + 1) 103 #[.int .u8 0, .bool false, .int .u8 0, .int .u64 0, .int .u64 0, .slice none 0 0] ∧ Whole (vWorldG g cap w) (w.heap.size + 2) 38 #[.int .i64 0, .int .i64 0] ∧
    Whole (vWorldG g cap w) (w.heap.size + 3) 103 #[.int .u8 0, .bool false, .int .u8 0, .int .u64 0, .int .u64 0, .slice none 0 0] ∧ Below w.heap.size w (vWorldG g cap w) := by
  have b1 := Whole.made w 110 #[.func (.func g) #[] cap]
  have b2 := Whole.made (w.alloc (.cells #[.func (.func g) #[] cap] 110)) 103 #[.int .u8 0, .bool false, .int .u8 0, .int .u64 0, .int .u64 0, .slice none 0 0]
  have b3 := Whole.made ((w.alloc (.cells #[.func (.func g) #[] cap] 110)).alloc (.cells #[.int .u8 0, .bool false, .int .u8 0, .int .u64 0, .int .u64 0, .slice none 0 0] 103)) 38 #[.int .i64 0, .int .i64 0]
  have b4 := Whole.made (((w.alloc (.cells #[.func (.func g) #[] cap] 110)).alloc (.cells #[.int .u8 0, .bool false, .int .u8 0, .int .u64 0, .int .u64 0, .slice none 0 0] 103)).alloc (.cells #[.int .i64 0, .int .i64 0] 38)) 103 #[.int .u8 0, .bool false, .int .u8 0, .int .u64 0, .int .u64 0, .slice none 0 0]
  simp only [World.size_alloc] at b2 b3 b4
  exact ⟨by simp [vWorldG], ((b1.alloc _).alloc _).alloc _, (b2.alloc _).alloc _, b3.alloc _, b4,
    ((((Below.refl _ _).alloc (Nat.le_refl _) _).alloc (by simp) _).alloc (by simp; omega) _).alloc (by simp; omega) _⟩
theorem value_outG {g : FuncId} {cap : Array Value} {q : Nat} {w : World} (hcf : ∀ w : World, (callFunc g cap).run Tryd.prog w = .ok (.enter g cap) w) (hq : q < w.heap.size)
    (hT : ∀ x W W' b, w.heap.size ≤ b → b < w.heap.size + 5 → T x W → W.grownBy W' (some b) → T x W')
    (h : ∀ W, Below w.heap.size w W → w.heap.size + 5 ≤ W.heap.size → Calls Tryd.prog g cap W fun e w' => ∃ x, e = .returned (sV x) ∧ T x w' ∧ W.grownBy w' (some q)) :
    Calls Tryd.prog 72 #[.func (.func 110) #[] #[.pointer (some ⟨w.heap.size, 0, none⟩), .pointer (some ⟨w.heap.size + 3, 0, none⟩)]] (vWorldG g cap w) fun e w' => e = .returned (.agg #[.int .i64 0, .int .i64 0]) ∧ ∃ x, VSG T w q x w' := by
  obtain ⟨hz, b1, b2, b3, b4, hbe⟩ := vWorld_factsG g cap w
  have b5 := Whole.made (vWorldG g cap w) 38 #[.int .i64 0, .int .i64 0]
  have hbe2 : Below w.heap.size w ((vWorldG g cap w).alloc (.cells #[.int .i64 0, .int .i64 0] 38)) := hbe.alloc (by omega) _
  have hc := valClosG (T := T) (z := #[.int .u8 0, .bool false, .int .u8 0, .int .u64 0, .int .u64 0, .slice none 0 0]) rfl hcf (b1.alloc (.cells #[.int .i64 0, .int .i64 0] 38)) (b4.alloc _) (by omega : q < w.heap.size + 3) (fun x W W' => hT x W W' _ (by omega) (by omega)) (h _ hbe2 (by rw [size_box]; omega))
  refine (out_any _ _ 0 0 (vWorldG g cap w) (fun w1 => (∃ x, VSG T w q x w1) ∧ Whole w1 (vWorldG g cap w).heap.size 38 #[.int .i64 0, .int .i64 0]) (cfVG _) (hc.mono ?_) (fun _ h => h.2)).mono ?_
  · rintro e w' ⟨rfl, x, hs, hv, w1, hg1, hg2⟩
    have hz2 : w.heap.size + 5 ≤ w1.heap.size := by have := hg1.size; simp only [World.size_alloc] at this; omega
    refine ⟨.inl ⟨rfl, rfl, rfl⟩, ⟨x, hs, ?_, hv, ?_, ?_⟩, ?_⟩
    · exact gb_before (gb_trans (gb_of_below (some q) hbe2) hg1) hg2 (fun g e => .inr (by injection e with e; omega))
    · exact ((b2.alloc _).grown hg1 (by simp only [ne_eq, Option.some.injEq]; omega)).grown hg2 (by simp only [ne_eq, Option.some.injEq]; omega)
    · exact ((b3.alloc _).grown hg1 (by simp only [ne_eq, Option.some.injEq]; omega)).grown hg2 (by simp only [ne_eq, Option.some.injEq]; omega)
    · exact (b5.grown hg1 (by simp only [ne_eq, Option.some.injEq]; omega)).grown hg2 (by simp only [ne_eq, Option.some.injEq]; omega)
  · rintro e w' ⟨rfl, w1, ⟨⟨x, hs⟩, _⟩, hg⟩
    rw [hz] at hg
    exact ⟨rfl, x, hT x _ _ _ (by omega) (by omega) hs.kept hg, gb_before hs.grown hg (fun g e => .inr (by injection e with e; omega)), hs.val.grown hg (by simp only [ne_eq, Option.some.injEq]; omega), hs.r1.grown hg (by simp only [ne_eq, Option.some.injEq]; omega), hs.r2.grown hg (by simp only [ne_eq, Option.some.injEq]; omega)⟩

set_option maxHeartbeats 800000 in
/-- Value of a function that ends well. -/
theorem valueG_ok {g : FuncId} {cap : Array Value} {q : Nat} {w : World} (hcf : ∀ w : World, (callFunc g cap).run Tryd.prog w = .ok (.enter g cap) w) (hq : q < w.heap.size)
    (hT : ∀ x W W' b, w.heap.size ≤ b → b < w.heap.size + 5 → T x W → W.grownBy W' (some b) → T x W')
    (h : ∀ W, Below w.heap.size w W → w.heap.size + 5 ≤ W.heap.size → Calls Tryd.prog g cap W fun e w' => ∃ x, e = .returned (sV x) ∧ T x w' ∧ W.grownBy w' (some q)) :
    Calls Tryd.prog 64 #[.func (.func g) #[] cap] w fun e w' => ∃ x, e = .returned (.tuple #[sV x, .agg #[.int .i64 0, .int .i64 0]]) ∧ T x w' ∧ w.grownBy w' (some q) := by
  have hv := value_outG hcf hq hT h
  unfold vWorldG at hv
  have HV := Lib.hid hv
  have HT := Lib.hid hT
  have hmf : ∀ (fn : Fn) (first cap : Array Value) (w : World), (Instr.makeFunc fn first cap).run Tryd.prog w = .ok (.func fn first cap) w := fun _ _ _ _ => rfl
  clear h hv hcf hT
  go_enter Tryd.func64, Tryd.ntmps64
  go_wp2_with (go_at_call 72; go_must (refine HV.out.mono ?_; rintro e w2 ⟨rfl, x, hl⟩; have k0 := fun o => (hl.val.alloc o).cell 0; have f0 := fun o => (hl.r1.alloc o).frozen 0; have m0 := fun o => (hl.r1.alloc o).cell 0; have k1 := fun o => (hl.val.alloc o).cell 1; have f1 := fun o => (hl.r1.alloc o).frozen 1; have m1 := fun o => (hl.r1.alloc o).cell 1; have k2 := fun o => (hl.val.alloc o).cell 2; have f2 := fun o => (hl.r1.alloc o).frozen 2; have m2 := fun o => (hl.r1.alloc o).cell 2; have k3 := fun o => (hl.val.alloc o).cell 3; have f3 := fun o => (hl.r1.alloc o).frozen 3; have m3 := fun o => (hl.r1.alloc o).cell 3; have k4 := fun o => (hl.val.alloc o).cell 4; have f4 := fun o => (hl.r1.alloc o).frozen 4; have m4 := fun o => (hl.r1.alloc o).cell 4; have k5 := fun o => (hl.val.alloc o).cell 5; have f5 := fun o => (hl.r1.alloc o).frozen 5; have m5 := fun o => (hl.r1.alloc o).cell 5; have f88 := fun o => (hl.r2.alloc o).frozen 0; have f99 := fun o => (hl.r2.alloc o).frozen 1; have m88 := fun o => (hl.r2.alloc o).cell 0; have m99 := fun o => (hl.r2.alloc o).cell 1; simp only [List.getElem?_toArray, List.getElem?_cons_zero, List.getElem?_cons_succ] at k0 k1 k2 k3 k4 k5 m0 m1 m2 m3 m4 m5 m88 m99; have hz := hl.grown.size; have HL := Lib.hid hl; clear hl))
  have hb : w.heap.size + 1 + 1 = w.heap.size + 2 := by omega
  rw [hb]
  obtain ⟨p1, g1⟩ := put6 (u0 := .int .u8 x.1.t.toNat) (u1 := .bool x.1.m) (u2 := .int .u8 x.1.i.op.toNat) (u3 := .int .u64 x.1.i.a) (u4 := .int .u64 x.1.i.b) (u5 := .slice x.2.1 x.1.i.l.length x.2.2) (HL.out.r1.alloc (.cells #[.int .i64 0, .int .i64 0] 38))
  obtain ⟨p2, g2⟩ := put2 (u0 := .int .i64 0) (u1 := .int .i64 0) ((HL.out.r2.alloc (.cells #[.int .i64 0, .int .i64 0] 38)).grown g1 (by simp only [ne_eq, Option.some.injEq]; omega))
  have p3 := p1.grown g2 (by simp only [ne_eq, Option.some.injEq]; omega)
  have q0 := p3.cell 0
  have q1 := p3.cell 1
  have q2 := p3.cell 2
  have q3 := p3.cell 3
  have q4 := p3.cell 4
  have q5 := p3.cell 5
  have q88 := p2.cell 0
  have q99 := p2.cell 1
  simp only [List.getElem?_toArray, List.getElem?_cons_zero, List.getElem?_cons_succ] at q0 q1 q2 q3 q4 q5 q88 q99
  refine bodyPost_ret (v := .tuple #[sV x, .agg #[.int .i64 0, .int .i64 0]]) (by simp [results, Tryd.results64, go_sem, q0, q1, q2, q3, q4, q5, q88, q99]) rfl ⟨x, rfl, ?_, ?_⟩
  · exact HT.out _ _ _ _ (by omega) (by omega) (HT.out _ _ _ _ (by omega) (by omega) (HT.out _ _ _ w.heap.size (Nat.le_refl _) (by omega) HL.out.kept (gb_alloc (gb_refl _ _) _)) g1) g2
  · exact gb_before (gb_before (gb_alloc HL.out.grown _) g1 (fun g e => .inr (by injection e with e; omega))) g2 (fun g e => .inr (by injection e with e; omega))
end
end Go.Proofs.YticgmfeihdankaaDoor

/- abort.Value of a function that ends well, whatever it hands back: api.Instr. (By gen/genVal.py.) -/
namespace Go.Proofs.YticgmfeihdankaaDoor
open Go.RowKit
set_option linter.unusedVariables false
set_option maxRecDepth 100000

theorem cfVI (cap : Array Value) (w : World) : (callFunc 100 cap).run Tryd.prog w = .ok (.enter 100 cap) w := by kernel_rfl
section
variable {T : (I × Option Addr × Nat) → World → Prop}
/-- Value's own closure: what the step hands back lies in its cell. -/
theorem valClosI {g : FuncId} {cap : Array Value} {b1 b4 q : Nat} {w : World} {z : Array Value} (hz : z.size = 4) (hcf : ∀ w : World, (callFunc g cap).run Tryd.prog w = .ok (.enter g cap) w)
    (h1 : Whole w b1 82 #[.func (.func g) #[] cap]) (h4 : Whole w b4 25 #[.int .u8 0, .int .u64 0, .int .u64 0, .slice none 0 0]) (hb : q < b4) (hT : ∀ x W W', T x W → W.grownBy W' (some b4) → T x W')
    (h : Calls Tryd.prog g cap w fun e w' => ∃ x, e = .returned (insV x.1 x.2.1 x.2.2) ∧ T x w' ∧ w.grownBy w' (some q)) :
    Calls Tryd.prog 100 #[.pointer (some ⟨b1, 0, none⟩), .pointer (some ⟨b4, 0, none⟩)] w fun e w' =>
      e = .returned (.tuple #[]) ∧ ∃ x, T x w' ∧ Whole w' b4 25 #[.int .u8 x.1.op.toNat, .int .u64 x.1.a, .int .u64 x.1.b, .slice x.2.1 x.1.l.length x.2.2] ∧ ∃ w1, w.grownBy w1 (some q) ∧ w1.grownBy w' (some b4) := by
  have hnil : ∀ w : World, (binOp BinOp.neq 82 (.func (.func g) #[] cap) .nilFunc).run Tryd.prog w = .ok (.bool true) w := fun _ => by kernel_rfl
  have c1 := h1.cell 0
  simp only [List.getElem?_toArray, List.getElem?_cons_zero] at c1
  have HH := Lib.hid h
  have H4 := Lib.hid h4
  have HT := Lib.hid hT
  clear h h1 h4 hT
  go_enter Tryd.func100, Tryd.ntmps100
  go_wp2_with fail
  refine HH.out.mono ?_
  rintro e w1 ⟨x, rfl, hs, hg⟩
  have HW := H4.out.grown hg (by simp only [ne_eq, Option.some.injEq]; omega)
  have k0 := HW.cell 0
  have k1 := HW.cell 1
  have k2 := HW.cell 2
  have k3 := HW.cell 3
  have f0 := HW.frozen 0
  have f1 := HW.frozen 1
  have f2 := HW.frozen 2
  have f3 := HW.frozen 3
  simp only [List.getElem?_toArray, List.getElem?_cons_zero, List.getElem?_cons_succ] at k0 k1 k2 k3
  obtain ⟨p1, p2⟩ := put4 (u0 := .int .u8 x.1.op.toNat) (u1 := .int .u64 x.1.a) (u2 := .int .u64 x.1.b) (u3 := .slice x.2.1 x.1.l.length x.2.2) HW
  have F : Hid (T x ((((w1.setCell ⟨b4, 0, none⟩ (.int .u8 x.1.op.toNat)).setCell ⟨b4, 1, none⟩ (.int .u64 x.1.a)).setCell ⟨b4, 2, none⟩ (.int .u64 x.1.b)).setCell ⟨b4, 3, none⟩ (.slice x.2.1 x.1.l.length x.2.2))) := HT.out _ _ _ hs p2
  have P1 := Lib.hid p1
  have P2 := Lib.hid p2
  have HG := Lib.hid hg
  clear p1 p2 hs hg HW hcf
  go_wp2_with fail
  go_end0
  exact ⟨rfl, x, F.out, P1.out, w1, HG.out, P2.out⟩
/-- What Value's closure leaves behind, seen from Value's beginning. -/
structure VSI (T : (I × Option Addr × Nat) → World → Prop) (w : World) (q : Nat) (x : (I × Option Addr × Nat)) (w1 : World) : Prop where
  kept : T x w1
  grown : w.grownBy w1 (some q)
  val : Whole w1 (w.heap.size + 3) 25 #[.int .u8 x.1.op.toNat, .int .u64 x.1.a, .int .u64 x.1.b, .slice x.2.1 x.1.l.length x.2.2]
  r1 : Whole w1 (w.heap.size + 1) 25 #[.int .u8 0, .int .u64 0, .int .u64 0, .slice none 0 0]
  r2 : Whole w1 (w.heap.size + 2) 38 #[.int .i64 0, .int .i64 0]
/-- The world in which Value calls Out. -/
def vWorldI (g : FuncId) (cap : Array Value) (w : World) : World :=
  (((w.alloc (.cells #[.func (.func g) #[] cap] 82)).alloc (.cells #[.int .u8 0, .int .u64 0, .int .u64 0, .slice none 0 0] 25)).alloc (.cells #[.int .i64 0, .int .i64 0] 38)).alloc (.cells #[.int .u8 0, .int .u64 0, .int .u64 0, .slice none 0 0] 25)
theorem vWorld_factsI (g : FuncId) (cap : Array Value) (w : World) : (vWorldI g cap w).heap.size = w.heap.size + 4 ∧ Whole (vWorldI g cap w) w.heap.size 82 #[.func (.func g) #[] cap] ∧
    Whole (vWorldI g cap w) (w.heap.size + 1) 25 #[.int .u8 0, .int .u64 0, .int .u64 0, .slice none 0 0] ∧ Whole (vWorldI g cap w) (w.heap.size + 2) 38 #[.int .i64 0, .int .i64 0] ∧
    Whole (vWorldI g cap w) (w.heap.size + 3) 25 #[.int .u8 0, .int .u64 0, .int .u64 0, .slice none 0 0] ∧ Below w.heap.size w (vWorldI g cap w) := by
  have b1 := Whole.made w 82 #[.func (.func g) #[] cap]
  have b2 := Whole.made (w.alloc (.cells #[.func (.func g) #[] cap] 82)) 25 #[.int .u8 0, .int .u64 0, .int .u64 0, .slice none 0 0]
  have b3 := Whole.made ((w.alloc (.cells #[.func (.func g) #[] cap] 82)).alloc (.cells #[.int .u8 0, .int .u64 0, .int .u64 0, .slice none 0 0] 25)) 38 #[.int .i64 0, .int .i64 0]
  have b4 := Whole.made (((w.alloc (.cells #[.func (.func g) #[] cap] 82)).alloc (.cells #[.int .u8 0, .int .u64 0, .int .u64 0, .slice none 0 0] 25)).alloc (.cells #[.int .i64 0, .int .i64 0] 38)) 25 #[.int .u8 0, .int .u64 0, .int .u64 0, .slice none 0 0]
  simp only [World.size_alloc] at b2 b3 b4
  exact ⟨by simp [vWorldI], ((b1.alloc _).alloc _).alloc _, (b2.alloc _).alloc _, b3.alloc _, b4,
    ((((Below.refl _ _).alloc (Nat.le_refl _) _).alloc (by simp) _).alloc (by simp; omega) _).alloc (by simp; omega) _⟩
theorem value_outI {g : FuncId} {cap : Array Value} {q : Nat} {w : World} (hcf : ∀ w : World, (callFunc g cap).run Tryd.prog w = .ok (.enter g cap) w) (hq : q < w.heap.size)
    (hT : ∀ x W W' b, w.heap.size ≤ b → b < w.heap.size + 5 → T x W → W.grownBy W' (some b) → T x W')
    (h : ∀ W, Below w.heap.size w W → w.heap.size + 5 ≤ W.heap.size → Calls Tryd.prog g cap W fun e w' => ∃ x, e = .returned (insV x.1 x.2.1 x.2.2) ∧ T x w' ∧ W.grownBy w' (some q)) :
    Calls Tryd.prog 72 #[.func (.func 100) #[] #[.pointer (some ⟨w.heap.size, 0, none⟩), .pointer (some ⟨w.heap.size + 3, 0, none⟩)]] (vWorldI g cap w) fun e w' => e = .returned (.agg #[.int .i64 0, .int .i64 0]) ∧ ∃ x, VSI T w q x w' := by
  obtain ⟨hz, b1, b2, b3, b4, hbe⟩ := vWorld_factsI g cap w
  have b5 := Whole.made (vWorldI g cap w) 38 #[.int .i64 0, .int .i64 0]
  have hbe2 : Below w.heap.size w ((vWorldI g cap w).alloc (.cells #[.int .i64 0, .int .i64 0] 38)) := hbe.alloc (by omega) _
  have hc := valClosI (T := T) (z := #[.int .u8 0, .int .u64 0, .int .u64 0, .slice none 0 0]) rfl hcf (b1.alloc (.cells #[.int .i64 0, .int .i64 0] 38)) (b4.alloc _) (by omega : q < w.heap.size + 3) (fun x W W' => hT x W W' _ (by omega) (by omega)) (h _ hbe2 (by rw [size_box]; omega))
  refine (out_any _ _ 0 0 (vWorldI g cap w) (fun w1 => (∃ x, VSI T w q x w1) ∧ Whole w1 (vWorldI g cap w).heap.size 38 #[.int .i64 0, .int .i64 0]) (cfVI _) (hc.mono ?_) (fun _ h => h.2)).mono ?_
  · rintro e w' ⟨rfl, x, hs, hv, w1, hg1, hg2⟩
    have hz2 : w.heap.size + 5 ≤ w1.heap.size := by have := hg1.size; simp only [World.size_alloc] at this; omega
    refine ⟨.inl ⟨rfl, rfl, rfl⟩, ⟨x, hs, ?_, hv, ?_, ?_⟩, ?_⟩
    · exact gb_before (gb_trans (gb_of_below (some q) hbe2) hg1) hg2 (fun g e => .inr (by injection e with e; omega))
    · exact ((b2.alloc _).grown hg1 (by simp only [ne_eq, Option.some.injEq]; omega)).grown hg2 (by simp only [ne_eq, Option.some.injEq]; omega)
    · exact ((b3.alloc _).grown hg1 (by simp only [ne_eq, Option.some.injEq]; omega)).grown hg2 (by simp only [ne_eq, Option.some.injEq]; omega)
    · exact (b5.grown hg1 (by simp only [ne_eq, Option.some.injEq]; omega)).grown hg2 (by simp only [ne_eq, Option.some.injEq]; omega)
  · rintro e w' ⟨rfl, w1, ⟨⟨x, hs⟩, _⟩, hg⟩
    rw [hz] at hg
    exact ⟨rfl, x, hT x _ _ _ (by omega) (by omega) hs.kept hg, gb_before hs.grown hg (fun g e => .inr (by injection e with e; omega)), hs.val.grown hg (by simp only [ne_eq, Option.some.injEq]; omega), hs.r1.grown hg (by simp only [ne_eq, Option.some.injEq]; omega), hs.r2.grown hg (by simp only [ne_eq, Option.some.injEq]; omega)⟩

set_option maxHeartbeats 800000 in
/-- Value of a function that ends well. -/
theorem valueI_ok {g : FuncId} {cap : Array Value} {q : Nat} {w : World} (hcf : ∀ w : World, (callFunc g cap).run Tryd.prog w = .ok (.enter g cap) w) (hq : q < w.heap.size)
    (hT : ∀ x W W' b, w.heap.size ≤ b → b < w.heap.size + 5 → T x W → W.grownBy W' (some b) → T x W')
    (h : ∀ W, Below w.heap.size w W → w.heap.size + 5 ≤ W.heap.size → Calls Tryd.prog g cap W fun e w' => ∃ x, e = .returned (insV x.1 x.2.1 x.2.2) ∧ T x w' ∧ W.grownBy w' (some q)) :
    Calls Tryd.prog 49 #[.func (.func g) #[] cap] w fun e w' => ∃ x, e = .returned (.tuple #[insV x.1 x.2.1 x.2.2, .agg #[.int .i64 0, .int .i64 0]]) ∧ T x w' ∧ w.grownBy w' (some q) := by
  have hv := value_outI hcf hq hT h
  unfold vWorldI at hv
  have HV := Lib.hid hv
  have HT := Lib.hid hT
  have hmf : ∀ (fn : Fn) (first cap : Array Value) (w : World), (Instr.makeFunc fn first cap).run Tryd.prog w = .ok (.func fn first cap) w := fun _ _ _ _ => rfl
  clear h hv hcf hT
  go_enter Tryd.func49, Tryd.ntmps49
  go_wp2_with (go_at_call 72; go_must (refine HV.out.mono ?_; rintro e w2 ⟨rfl, x, hl⟩; have k0 := fun o => (hl.val.alloc o).cell 0; have f0 := fun o => (hl.r1.alloc o).frozen 0; have m0 := fun o => (hl.r1.alloc o).cell 0; have k1 := fun o => (hl.val.alloc o).cell 1; have f1 := fun o => (hl.r1.alloc o).frozen 1; have m1 := fun o => (hl.r1.alloc o).cell 1; have k2 := fun o => (hl.val.alloc o).cell 2; have f2 := fun o => (hl.r1.alloc o).frozen 2; have m2 := fun o => (hl.r1.alloc o).cell 2; have k3 := fun o => (hl.val.alloc o).cell 3; have f3 := fun o => (hl.r1.alloc o).frozen 3; have m3 := fun o => (hl.r1.alloc o).cell 3; have f8 := fun o => (hl.r2.alloc o).frozen 0; have f9 := fun o => (hl.r2.alloc o).frozen 1; have m8 := fun o => (hl.r2.alloc o).cell 0; have m9 := fun o => (hl.r2.alloc o).cell 1; simp only [List.getElem?_toArray, List.getElem?_cons_zero, List.getElem?_cons_succ] at k0 k1 k2 k3 m0 m1 m2 m3 m8 m9; have hz := hl.grown.size; have HL := Lib.hid hl; clear hl))
  have hb : w.heap.size + 1 + 1 = w.heap.size + 2 := by omega
  rw [hb]
  obtain ⟨p1, g1⟩ := put4 (u0 := .int .u8 x.1.op.toNat) (u1 := .int .u64 x.1.a) (u2 := .int .u64 x.1.b) (u3 := .slice x.2.1 x.1.l.length x.2.2) (HL.out.r1.alloc (.cells #[.int .i64 0, .int .i64 0] 38))
  obtain ⟨p2, g2⟩ := put2 (u0 := .int .i64 0) (u1 := .int .i64 0) ((HL.out.r2.alloc (.cells #[.int .i64 0, .int .i64 0] 38)).grown g1 (by simp only [ne_eq, Option.some.injEq]; omega))
  have p3 := p1.grown g2 (by simp only [ne_eq, Option.some.injEq]; omega)
  have q0 := p3.cell 0
  have q1 := p3.cell 1
  have q2 := p3.cell 2
  have q3 := p3.cell 3
  have q8 := p2.cell 0
  have q9 := p2.cell 1
  simp only [List.getElem?_toArray, List.getElem?_cons_zero, List.getElem?_cons_succ] at q0 q1 q2 q3 q8 q9
  refine bodyPost_ret (v := .tuple #[insV x.1 x.2.1 x.2.2, .agg #[.int .i64 0, .int .i64 0]]) (by simp [results, Tryd.results49, go_sem, q0, q1, q2, q3, q8, q9]) rfl ⟨x, rfl, ?_, ?_⟩
  · exact HT.out _ _ _ _ (by omega) (by omega) (HT.out _ _ _ _ (by omega) (by omega) (HT.out _ _ _ w.heap.size (Nat.le_refl _) (by omega) HL.out.kept (gb_alloc (gb_refl _ _) _)) g1) g2
  · exact gb_before (gb_before (gb_alloc HL.out.grown _) g1 (fun g e => .inr (by injection e with e; omega))) g2 (fun g e => .inr (by injection e with e; omega))
end
end Go.Proofs.YticgmfeihdankaaDoor
