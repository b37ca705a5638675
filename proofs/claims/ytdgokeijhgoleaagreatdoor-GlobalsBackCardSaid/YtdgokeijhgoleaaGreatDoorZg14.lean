/- globals.GetAll of any bytes; the laws' closures. -/
import Derived.Test.YtdgokeijhgoleaaGreatDoorZg13
import Derived.Test.YtdgokeijhgoleaaGreatDoorZg11
import Derived.Deep.LoopGhost
import Derived.Test.YtdgokeijhgoleaaGreatDoorZg07
import Derived.RegionTactic
import Derived.Test.YtdgokeijhgoleaaGreatDoorZg12
import Derived.Test.YtdgokeijhgoleaaGreatDoorZg10
import Derived.Test.YtdgokeijhgoleaaGreatDoorZg03
import Derived.Test.YtdgokeijhgoleaaGreatDoorZg05
namespace Go.Proofs.YtdgokeijhgoleaaGreatDoor
open Go.RowKit
set_option linter.unusedVariables false
set_option maxRecDepth 100000

/-- Globals, one behind the other, behind those that are read. -/
noncomputable def gsK (l : List UInt8) : Nat → Nat → List Gl → Res (List Gl)
  | 0, q, acc => .ok acc q
  | n + 1, q, acc => (gR l q).bind fun x q2 => gsK l n q2 (acc ++ [x])
theorem gsK_more {l : List UInt8} {n j q : Nat} {acc : List Gl} (h : j < n) : gsK l (n - j) q acc = (gR l q).bind fun x q2 => gsK l (n - (j + 1)) q2 (acc ++ [x]) := by
  rw [show n - j = n - (j + 1) + 1 by omega]; rfl
/-- A list, and its end. -/
noncomputable def allR (l : List UInt8) (k : Nat) : Res (List Gl) := (countR l k).bind fun n k1 => (gsK l n.toNat k1 []).bind fun xs k2 => if k2 < l.length then .err 14 k2 else .ok xs k2
/-- What holds at the head of GetAll's loop. -/
structure AInG (w : World) (p : Nat) (l : List UInt8) (k : Nat) (xs : List SlotG) (v : Value) (W : World) : Prop where
  sc : Sc W p l k
  g : w.grownBy W (some p)
  r : RowG W w.heap.size v xs
  tb : TbP p W
section
variable {w W W' : World} {p : Nat} {l : List UInt8} {k k' : Nat} {xs : List SlotG} {x : SlotG} {v v' : Value}
theorem AInG.step (h : AInG w p l k xs v W) (hp : p < w.heap.size) (hg : W.grownBy W' (some p)) (hs : Sc W' p l k') : AInG w p l k' xs v W' :=
  ⟨hs, gb_trans h.g hg, h.r.past hg hp, h.tb.self hg⟩
theorem AInG.alloc (h : AInG w p l k xs v W) (hp : p < w.heap.size) (o : Obj) : AInG w p l k xs v (W.alloc o) := h.step hp (gb_alloc (gb_refl _ _) o) (h.sc.alloc o)
theorem AInG.more (h : AInG w p l k xs v W) (hp : p < w.heap.size) (hg : W.grownBy W' v.ownBlock) (hr : RowG W' w.heap.size v' (xs ++ [x])) : AInG w p l k (xs ++ [x]) v' W' := by
  have hlt := World.ownsRow.lt h.r
  exact ⟨h.sc.grown hg (fun e => by have := hlt p e.symm; omega) (fun g e => by have := hlt g e; omega), gb_before h.g hg (fun g e => .inr (hlt g e).1), hr, h.tb.grown hg (fun g e => by have := hlt g e; omega)⟩
end
/-- The list that was read. -/
def GotAllG (p : Nat) (l : List UInt8) (r : Res (List Gl)) (w : World) (e : Ending) (w' : World) : Prop := match r with
  | .ok xs k => ∃ v rows, e = .returned v ∧ RowG w' w.heap.size v rows ∧ rows.map (·.1) = xs ∧ Sc w' p l k ∧ w.grownBy w' (some p)
  | .err c a => e = .panicked (stopP c a) ∧ w.grownBy w' (some p)
theorem cfGG (a : Array Value) (w : World) : (callFunc 22 a).run Tryz.prog w = .ok (.enter 22 a) w := by kernel_rfl
set_option maxHeartbeats 4000000 in
theorem wgetall_gl {w : World} {p : Nat} {l : List UInt8} {k0 : Nat} (h : Sc w p l k0) (hT : TbP p w) :
    Calls Tryz.prog 21 #[.pointer (some ⟨p, 0, none⟩), .func (.func 22) #[] #[]] w (GotAllG p l (allR l k0) w) := by
  have hp := h.lt
  have hc := count_scan h
  have HT := Lib.hid hT
  have hcf := cfGG
  unfold allR
  cases hr : countR l k0 with
  | err c a =>
    rw [hr] at hc
    rw [Res.bind_err]
    have HC := Lib.hid hc
    clear h hT hc hr
    go_enter Tryz.func21, Tryz.ntmps21
    go_wp2_with (go_at_call 39; go_must ((with_reducible refine HC.out.mono ?_); rintro e w1 ⟨rfl, hg⟩; have HG := Lib.hid hg; clear hg))
    exact ⟨rfl, rfl, HG.out⟩
  | ok c k1 =>
    rw [hr] at hc
    rw [Res.bind_ok]
    obtain ⟨v0, v1⟩ := countR_ok hr
    obtain ⟨n, rfl⟩ : ∃ n : Nat, c = n := ⟨c.toNat, by omega⟩
    rw [Int.toNat_natCast]
    have HC := Lib.hid hc
    obtain ⟨R, hR⟩ : ∃ R, R = gsK l n k1 [] := ⟨_, rfl⟩
    rw [← hR]
    have HR := Lib.hid hR
    obtain ⟨T, hTe⟩ : ∃ T, T = R.bind fun xs k2 => if k2 < l.length then .err 14 k2 else .ok xs k2 := ⟨_, rfl⟩
    rw [← hTe]
    have HTE := Lib.hid hTe
    clear h hT hc hr hR hTe
    go_enter Tryz.func21, Tryz.ntmps21
    go_wp2_with (go_at_call 39; go_must ((with_reducible refine HC.out.mono ?_); rintro e w1 ⟨rfl, hs, hg⟩; have HS := Lib.hid hs; have HG := Lib.hid hg; clear hs hg))
    go_loopw [5, 8] (fun v i wr => ∃ (j k : Nat) (rows : List SlotG), j ≤ n ∧ i = .int .i64 j ∧ rows.length = j ∧ AInG w p l k rows v wr ∧ gsK l (n - j) k (rows.map (·.1)) = R) (fun _ i _ => n - (intOf i).toNat)
    case atStart => exact ⟨0, k1, [], Nat.zero_le _, rfl, rfl, ⟨HS.out, HG.out, RowG.nil _ _, HT.out.self HG.out⟩, HR.out.symm⟩
    case round =>
      obtain ⟨j, k, rows, hj, rfl, hlen, ha, hgs⟩ := hrel
      by_cases hlt : j < n
      · rw [gsK_more hlt] at hgs
        have hG := get_gl ha.sc ha.tb
        cases hg1 : gR l k with
        | err c a =>
          rw [hg1] at hG hgs
          rw [Res.bind_err] at hgs
          have HGe := Lib.hid hG
          have HA := Lib.hid ha
          have HRE := Lib.hid (show T = .err c a by rw [HTE.out, ← hgs, Res.bind_err])
          clear ha hG hg1 hlen hgs
          go_wp2_with (go_at_call 22; go_must ((with_reducible refine HGe.out.mono ?_); rintro e w2 ⟨rfl, hg⟩; have HG2 := Lib.hid hg; clear hg))
          exact ⟨rfl, by rw [HRE.out]; exact ⟨rfl, gb_trans HA.out.g HG2.out⟩⟩
        | ok x k2 =>
          rw [hg1] at hG hgs
          rw [Res.bind_ok] at hgs
          have HGe := Lib.hid (show Calls Tryz.prog 22 #[.pointer (some ⟨p, 0, none⟩)] wr (fun e w' => ∃ A c, e = .returned (glV x A c) ∧ Sc w' p l k2 ∧ wr.grownBy w' (some p)) from hG)
          have HA := Lib.hid ha
          have HGS := Lib.hid hgs
          have hle : rows.length ≤ 10000 := by omega
          have HLEN := Lib.hid hlen
          clear ha hG hg1 hgs hlen
          go_wp2_with (first
            | (go_at_call 22; go_must ((with_reducible refine HGe.out.mono ?_); intro e w2 hq; obtain ⟨A, c, rfl, hs, hg⟩ := hq; have HA2 := Lib.hid (HA.out.step hp hg hs); have hz2 := HA2.out.g.size; have HX := Lib.hid (Whole.made w2 46 (sC (x, A, c))); clear hs hg))
            | (at_builtin; (refine rowG_new rfl _ _ rfl w.heap.size _ rows rfl (HA2.out.alloc hp _).r w2.heap.size (x, A, c) rfl HX.out hle (Nat.le_trans hz2 (below_box w2 _).size) ?_; intro v3 w3 hr3 hg3; have HA3 := Lib.hid ((HA2.out.alloc hp _).more hp hg3 hr3); clear hr3 hg3)))
          go_roundw
          case rel => exact ⟨j + 1, k2, rows ++ [(x, A, c)], by omega, by go_num, by rw [List.length_append, HLEN.out, List.length_singleton], HA3.out, by rw [List.map_append]; exact HGS.out⟩
          case measure => simp [intOf]; omega
      · obtain rfl : j = n := by omega
        rw [Nat.sub_self] at hgs
        have HA := Lib.hid ha
        by_cases hk : k < l.length
        · have HRE := Lib.hid (show T = .err 14 k by rw [HTE.out, ← hgs, show gsK l 0 k (rows.map (·.1)) = .ok (rows.map (·.1)) k from rfl, Res.bind_ok, if_pos hk])
          have HEn := Lib.hid (end_bad ha.sc hk)
          clear ha hgs
          go_wp2_with (go_at_call 40; go_must ((with_reducible refine HEn.out.mono ?_); rintro e w2 ⟨rfl, hg⟩; have HG2 := Lib.hid hg; clear hg))
          exact ⟨rfl, by rw [HRE.out]; exact ⟨rfl, gb_trans HA.out.g HG2.out⟩⟩
        · have HRE := Lib.hid (show T = .ok (rows.map (·.1)) k by rw [HTE.out, ← hgs, show gsK l 0 k (rows.map (·.1)) = .ok (rows.map (·.1)) k from rfl, Res.bind_ok, if_neg hk])
          have hle := ha.sc.le.1
          obtain rfl : k = l.length := by omega
          have HEn := Lib.hid (end_ok ha.sc)
          clear ha hk hgs
          go_wp2_with (go_at_call 40; go_must ((with_reducible refine HEn.out.mono ?_); rintro e w2 ⟨rfl, m, rfl⟩))
          go_ret
          have HA2 := HA.out.step hp (gb_drewN (gb_refl _ _) m) (HA.out.sc.drewN m)
          rw [HRE.out]
          exact ⟨_, rows, rfl, HA2.r, rfl, HA2.sc, HA2.g⟩
theorem getall_gl {w : World} {p : Nat} {l : List UInt8} {k0 : Nat} (h : Sc w p l k0) (hT : TbP p w) :
    Calls Tryz.prog 9 #[.pointer (some ⟨p, 0, none⟩)] w (GotAllG p l (allR l k0) w) := by
  have HP := wgetall_gl h hT
  clear h hT
  cases hr : allR l k0 with
  | err c a =>
    rw [hr] at HP
    have HP := Lib.hid HP
    clear hr
    go_enter Tryz.func9, Tryz.ntmps9
    go_wp2_with (go_at_call 21; go_must ((with_reducible refine HP.out.mono ?_); rintro e w1 ⟨rfl, hg⟩; have HG := Lib.hid hg; clear hg))
    exact ⟨rfl, rfl, HG.out⟩
  | ok xs k =>
    rw [hr] at HP
    have HP := Lib.hid (show Calls Tryz.prog 21 #[.pointer (some ⟨p, 0, none⟩), .func (.func 22) #[] #[]] w (fun e w' => ∃ v rows, e = .returned v ∧ RowG w' w.heap.size v rows ∧ rows.map (·.1) = xs ∧ Sc w' p l k ∧ w.grownBy w' (some p)) from HP)
    clear hr
    go_enter Tryz.func9, Tryz.ntmps9
    go_wp2_with (go_at_call 21; go_must ((with_reducible refine HP.out.mono ?_); intro e w1 hq; obtain ⟨v, rows, rfl, hr, hm, hs, hg⟩ := hq; have HR := Lib.hid hr; have HS := Lib.hid hs; have HG := Lib.hid hg; have HM := Lib.hid hm; clear hr hs hg hm))
    go_ret
    exact ⟨_, rows, rfl, HR.out, HM.out, HS.out, HG.out⟩
end Go.Proofs.YtdgokeijhgoleaaGreatDoor

/- slices.Equal of labels; instr.Same; the reference's Same. -/
namespace Go.Proofs.YtdgokeijhgoleaaGreatDoor
open Go.RowKit
set_option linter.unusedVariables false
set_option maxRecDepth 100000

def LiesL (w : World) (A : Option Addr) (l : List Int) : Prop := Lies w w.heap.size A (cells32 l)
theorem LiesL.below {w w' : World} {A : Option Addr} {l : List Int} (h : LiesL w A l) (hb : Below w.heap.size w w') : LiesL w' A l := (Lies.below h hb (Nat.le_refl _)).more hb.size
theorem LiesL.at {w : World} {A : Option Addr} {l : List Int} (h : LiesL w A l) {i : Nat} {d : Int} (hd : l[i]? = some d) : ∃ b off, A = some ⟨b, off, none⟩ ∧ b < w.heap.size ∧ w.cell? ⟨b, off + i, none⟩ = some (.int .u32 d) := by
  obtain ⟨b, off, e, hb, hc⟩ := h i _ (cells32_get hd)
  exact ⟨b, off, e, hb, hc⟩
/-- The first k of two lists are the same. -/
def Eqs (a b : List Int) (k : Nat) : Prop := ∀ j, j < k → a[j]? = b[j]?
theorem Eqs.all {a b : List Int} {n : Nat} (h : Eqs a b n) (ha : a.length = n) (hb : b.length = n) : a = b := by
  apply List.ext_getElem?
  intro j
  rcases Nat.lt_or_ge j n with g | g
  · exact h j g
  · rw [List.getElem?_eq_none (by omega), List.getElem?_eq_none (by omega)]
def BoolPost (p : Bool) (w : World) (e : Ending) (w' : World) : Prop := e = .returned (.bool p) ∧ Below w.heap.size w w'
/-- Are two instructions the same? -/
def sameZ (i k : I) : Bool := decide (i.op = k.op) && decide (i.a = k.a) && decide (i.b = k.b) && decide (i.l = k.l)
theorem below_twoI (w : World) (i k : I) (A B : Option Addr) (c d : Nat) : Below w.heap.size w ((w.alloc (.cells (insC i A c) 44)).alloc (.cells (insC k B d) 44)) := (below_box w _).alloc (by simp) _
theorem same_no {i k : I} {w W : World} (h : ¬ (i.op = k.op ∧ i.a = k.a ∧ i.b = k.b ∧ i.l = k.l)) (hb : Below w.heap.size w W) : BoolPost (sameZ i k) w (.returned (.bool false)) W := by
  refine ⟨ret_bool ?_, hb⟩
  unfold sameZ
  by_cases h1 : i.op = k.op
  · by_cases h2 : i.a = k.a
    · by_cases h3 : i.b = k.b
      · have h4 : ¬ i.l = k.l := fun e => h ⟨h1, h2, h3, e⟩
        simp [h4]
      · simp [h3]
    · simp [h2]
  · simp [h1]
theorem op_ne {a b : UInt8} (h : a ≠ b) : ((a.toNat : Int) == b.toNat) = false := by
  simp
  intro e
  exact h (UInt8.toNat_inj.1 (by omega))
theorem op_eq (a : UInt8) : ((a.toNat : Int) == a.toNat) = true := by simp
set_option maxHeartbeats 2000000 in
theorem refSame_any {w : World} {A B : Option Addr} {c d : Nat} {i k : I} (ha : LiesL w A i.l) (hb : LiesL w B k.l) (na : i.l.length ≤ 100000) (nb : k.l.length ≤ 100000) :
    Calls Tryz.prog 26 #[insV i A c, insV k B d] w (BoolPost (sameZ i k) w) := by
  have HB2 := Lib.hid (below_twoI w i k A B c d)
  have HA := Lib.hid (ha.below HB2.out)
  have HB := Lib.hid (hb.below HB2.out)
  clear ha hb
  by_cases h1 : i.op = k.op
  · have d1 : ((i.op.toNat : Int) != k.op.toNat) = false := by rw [h1]; simp
    by_cases h2 : i.a = k.a
    · have d2 : (i.a != k.a) = false := by simpa using h2
      by_cases h3 : i.b = k.b
      · have d3 : (i.b != k.b) = false := by simpa using h3
        have HE := Lib.hid (show sameZ i k = decide (i.l = k.l) by unfold sameZ; simp [h1, h2, h3])
        by_cases h4 : i.l.length = k.l.length
        · have d4 : ((i.l.length : Int) != k.l.length) = false := by rw [h4]; simp
          have HL := Lib.hid h4
          clear h1 h2 h3 h4
          go_enter Tryz.func26, Tryz.ntmps26
          go_wp2
          generalize hW : ((w.alloc (.cells (insC i A c) 44)).alloc (.cells (insC k B d) 44)) = W at *
          have x3 : W.cell? ⟨w.heap.size, 3, none⟩ = some (.slice A i.l.length c) := by rw [← hW]; exact ((Whole.made w 44 (insC i A c)).alloc _).cell 3
          have y3 : W.cell? ⟨w.heap.size + 1, 3, none⟩ = some (.slice B k.l.length d) := by
            rw [← hW]
            have := Whole.made (w.alloc (.cells (insC i A c) 44)) 44 (insC k B d)
            rw [size_box] at this
            exact this.cell 3
          clear hW
          go_loopw [5] (fun s wr => ∃ j q : Nat, j ≤ i.l.length ∧ s = .int .i64 j ∧ wr = W.drewN q ∧ Eqs i.l k.l j) (fun s _ => i.l.length - (intOf s).toNat)
          case atStart => exact ⟨0, 0, Nat.zero_le _, rfl, rfl, fun j hj => absurd hj (Nat.not_lt_zero _)⟩
          case round =>
            obtain ⟨j, q, hj, rfl, rfl, heq⟩ := hrel
            by_cases hlt : j < i.l.length
            · obtain ⟨x, hx⟩ : ∃ x, i.l[j]? = some x := ⟨_, List.getElem?_eq_getElem hlt⟩
              obtain ⟨y, hy⟩ : ∃ y, k.l[j]? = some y := ⟨_, List.getElem?_eq_getElem (by rw [← HL.out]; exact hlt)⟩
              obtain ⟨b1, o1, rfl, _, g1⟩ := HA.out.at hx
              obtain ⟨b2, o2, rfl, _, g2⟩ := HB.out.at hy
              have hlt2 : j < k.l.length := by rw [← HL.out]; exact hlt
              have HE2 := Lib.hid heq
              have HX := Lib.hid hx
              have HY := Lib.hid hy
              clear heq hx hy
              by_cases hxy : x = y
              · have HXY := Lib.hid hxy
                have hc : (x != y) = false := by simpa using hxy
                clear hxy
                go_wp2_with fail
                go_region
                go_wp2
                go_roundw
                case measure => simp [intOf]; omega
                case rel =>
                  refine ⟨j + 1, q + 1, by omega, by go_num, rfl, fun u hu => ?_⟩
                  by_cases e : u = j
                  · subst e
                    rw [HX.out, HY.out, HXY.out]
                  · exact HE2.out u (by omega)
              · have HXY := Lib.hid hxy
                have hc : (x != y) = true := by simpa using hxy
                clear hxy
                go_wp2_with fail
                go_region
                go_wp2
                go_ret
                refine ⟨ret_bool ?_, below_drewN HB2.out _⟩
                have : ¬ i.l = k.l := fun e => HXY.out (by have h1 := HX.out; have h2 := HY.out; rw [e, h2] at h1; injection h1 with h1; exact h1.symm)
                rw [HE.out, decide_eq_false this]
            · have hjj : j = i.l.length := by omega
              subst hjj
              have hab : i.l = k.l := heq.all rfl HL.out.symm
              clear heq
              go_wp2
              go_ret
              exact ⟨ret_bool (by rw [HE.out, decide_eq_true hab]), below_drewN HB2.out _⟩
        · have d4 : ((i.l.length : Int) != k.l.length) = true := by simp; omega
          have HNO := Lib.hid (fun W hb => same_no (i := i) (k := k) (w := w) (W := W) (fun h => h4 (by rw [h.2.2.2])) hb)
          clear h1 h2 h3 h4
          go_enter Tryz.func26, Tryz.ntmps26
          go_wp2
          go_ret
          exact HNO.out _ HB2.out
      · have d3 : (i.b != k.b) = true := by simpa using h3
        have HNO := Lib.hid (fun W hb => same_no (i := i) (k := k) (w := w) (W := W) (fun h => h3 h.2.2.1) hb)
        clear h1 h2 h3
        go_enter Tryz.func26, Tryz.ntmps26
        go_wp2
        go_ret
        exact HNO.out _ HB2.out
    · have d2 : (i.a != k.a) = true := by simpa using h2
      have HNO := Lib.hid (fun W hb => same_no (i := i) (k := k) (w := w) (W := W) (fun h => h2 h.2.1) hb)
      clear h1 h2
      go_enter Tryz.func26, Tryz.ntmps26
      go_wp2
      go_ret
      exact HNO.out _ HB2.out
  · have d1 : ((i.op.toNat : Int) != k.op.toNat) = true := by have := op_ne h1; simp at this ⊢; exact this
    have HNO := Lib.hid (fun W hb => same_no (i := i) (k := k) (w := w) (W := W) (fun h => h1 h.1) hb)
    clear h1
    go_enter Tryz.func26, Tryz.ntmps26
    go_wp2
    go_ret
    exact HNO.out _ HB2.out
end Go.Proofs.YtdgokeijhgoleaaGreatDoor

/- The walk of ConstsPuts. -/
namespace Go.Proofs.YtdgokeijhgoleaaGreatDoor
open Go.RowKit
set_option linter.unusedVariables false
set_option maxRecDepth 100000

/-- What the laws keep of an instruction: its box, its labels; the tables. -/
structure CSt (w : World) (i : I) (A : Option Addr) (c : Nat) (W : World) : Prop where
  tb : Tabs W
  box : BoxI w W i A c
  li : LiesL W A i.l
section
variable {w W W' : World} {i : I} {A : Option Addr} {c : Nat} {v : Value} {xs : List UInt8}
theorem CSt.on (h : CSt w i A c W) (hb : Below W.heap.size W W') : CSt w i A c W' := ⟨h.tb.below hb, h.box.on hb, h.li.below hb⟩
theorem CSt.start (hT : Tabs w) (hi : LiesL w A i.l) : CSt w i A c (w.alloc (.cells (insC i A c) 44)) :=
  ⟨hT.below (below_box _ _), BoxI.start w i A c, hi.below (below_box _ _)⟩
theorem CSt.bel (h : CSt w i A c W) : Below w.heap.size w W := h.box.2
/-- .. and bytes that were made. -/
structure CLb (w : World) (i : I) (A : Option Addr) (c : Nat) (v : Value) (xs : List UInt8) (W : World) : Prop where
  a : CSt w i A c W
  r : Row W w.heap.size v xs
theorem CLb.on (h : CLb w i A c v xs W) (hb : Below W.heap.size W W') : CLb w i A c v xs W' := ⟨h.a.on hb, h.r.later hb⟩
abbrev Five (w : World) (i : I) (A : Option Addr) (c : Nat) (Ab : Option Addr) (cb : Nat) (xs : List UInt8) (W : World) : Prop :=
  (W.cell? ⟨w.heap.size, 0, none⟩ = some (.int .u8 i.op.toNat) ∧ W.cell? ⟨w.heap.size, 1, none⟩ = some (.int .u64 i.a) ∧ W.cell? ⟨w.heap.size, 2, none⟩ = some (.int .u64 i.b) ∧ W.cell? ⟨w.heap.size, 3, none⟩ = some (.slice A i.l.length c)) ∧
  (convert 22 9 (.slice Ab xs.length cb)).run Tryz.prog W = .ok (.string (S xs)) W
theorem CLb.five {Ab : Option Addr} {cb : Nat} (h : CLb w i A c (.slice Ab xs.length cb) xs W) : CLb w i A c (.slice Ab xs.length cb) xs W ∧ Five w i A c Ab cb xs W := by
  obtain ⟨A', c', e, hc⟩ := h.r.str
  injection e with e1 e2 e3
  subst e1; subst e3
  exact ⟨h, ⟨h.a.box.c0, h.a.box.c1, h.a.box.c2, h.a.box.c3⟩, hc 9 Tryz.underlying9⟩
end
theorem same_self (i : I) : sameZ i i = true := by unfold sameZ; simp
theorem gIns_same (n : Int) (w : World) : Calls Tryz.prog 26 #[.agg #[.int .u8 35, .int .u64 n, .int .u64 0, .slice none 0 0], .agg #[.int .u8 35, .int .u64 n, .int .u64 0, .slice none 0 0]] w (BoolPost true w) := by
  have := refSame_any (w := w) (A := none) (B := none) (c := 0) (d := 0) (i := gIns n) (k := gIns n) (fun j v hv => by simp [cells32] at hv) (fun j v hv => by simp [cells32] at hv) (by simp) (by simp)
  rw [same_self] at this
  exact this

end Go.Proofs.YtdgokeijhgoleaaGreatDoor

/- creelref12.GetAll of any bytes; creelref12.Same. -/
namespace Go.Proofs.YtdgokeijhgoleaaGreatDoor
open Go.RowKit
set_option linter.unusedVariables false
set_option maxRecDepth 100000

/-- What holds at the head of the reference's loop. -/
structure BInG (w : World) (q : Nat) (l : List UInt8) (s : RSt) (xs : List SlotG) (v : Value) (W : World) : Prop where
  rs : Rs W q l s
  g : w.grownBy W (some q)
  r : RowG W w.heap.size v xs
section
variable {w W W' : World} {q : Nat} {l : List UInt8} {s s' : RSt} {xs : List SlotG} {x : SlotG} {v v' : Value}
theorem BInG.step (h : BInG w q l s xs v W) (hq : q < w.heap.size) (hg : W.grownBy W' (some q)) (hs : Rs W' q l s') : BInG w q l s' xs v W' :=
  ⟨hs, gb_trans h.g hg, h.r.past hg hq⟩
theorem BInG.alloc (h : BInG w q l s xs v W) (hq : q < w.heap.size) (o : Obj) : BInG w q l s xs v (W.alloc o) := h.step hq (gb_alloc (gb_refl _ _) o) (h.rs.alloc o)
theorem BInG.more (h : BInG w q l s xs v W) (hq : q < w.heap.size) (hg : W.grownBy W' v.ownBlock) (hr : RowG W' w.heap.size v' (xs ++ [x])) : BInG w q l s (xs ++ [x]) v' W' := by
  have hlt := World.ownsRow.lt h.r
  exact ⟨h.rs.grown hg (fun e => by have := hlt q e.symm; omega) (fun g e => by have := hlt g e; omega), gb_before h.g hg (fun g e => .inr (hlt g e).1), hr⟩
end
/-- How far the list is. -/
def GInv (l : List UInt8) (n j : Nat) (s : RSt) (rows : List SlotG) (R : Res (List Gl)) : Prop := match s with
  | .at k => gsK l (n - j) k (rows.map (·.1)) = R
  | .bad c a => R = .err c a
theorem GInv.step {l : List UInt8} {n j k : Nat} {rows : List SlotG} {R : Res (List Gl)} (h : GInv l n j (.at k) rows R) (hlt : j < n) {x : Gl} {A : Option Addr} {c : Nat} (hv : ∀ y k2, gR l k = .ok y k2 → x = y) :
    GInv l n (j + 1) (stOf (gR l k)) (rows ++ [(x, A, c)]) R := by
  have h1 : gsK l (n - j) k (rows.map (·.1)) = R := h
  rw [gsK_more hlt] at h1
  cases hg : gR l k with
  | err c a =>
    rw [hg, Res.bind_err] at h1
    exact h1.symm
  | ok y k2 =>
    rw [hg, Res.bind_ok] at h1
    obtain rfl := hv y k2 hg
    show gsK l (n - (j + 1)) k2 ((rows ++ [(x, A, c)]).map (·.1)) = R
    rw [List.map_append]
    exact h1
/-- What creelref12.GetAll leaves behind. -/
def RGotAllG (q : Nat) (l : List UInt8) (r : Res (List Gl)) (w : World) (e : Ending) (w' : World) : Prop := match r with
  | .ok xs k => ∃ v rows, e = .returned v ∧ RowG w' w.heap.size v rows ∧ rows.map (·.1) = xs ∧ Rs w' q l (.at k) ∧ w.grownBy w' (some q)
  | .err c a => e = .returned (.slice none 0 0) ∧ Rs w' q l (.bad c a) ∧ w.grownBy w' (some q)
set_option maxHeartbeats 4000000 in
theorem rgetall_gl {w : World} {q : Nat} {l : List UInt8} {k0 : Nat} (h : Rs w q l (.at k0)) :
    Calls Tryz.prog 10 #[.pointer (some ⟨q, 0, none⟩)] w (RGotAllG q l (allR l k0) w) := by
  have hq := h.lt
  have hC := count_ref h
  have key : ∃ (n : Nat) (s0 : RSt) (R : Res (List Gl)), vZ (countR l k0) = n ∧ n ≤ 10000 ∧ stOf (countR l k0) = s0 ∧ GInv l n 0 s0 [] R ∧ allR l k0 = R.bind fun xs k2 => if k2 < l.length then .err 14 k2 else .ok xs k2 := by
    unfold allR
    cases hr : countR l k0 with
    | err c a => exact ⟨0, .bad c a, .err c a, rfl, by omega, rfl, rfl, rfl⟩
    | ok v k1 =>
      obtain ⟨v0, v1⟩ := countR_ok hr
      obtain ⟨n, rfl⟩ : ∃ n : Nat, v = n := ⟨v.toNat, by omega⟩
      exact ⟨n, .at k1, gsK l n k1 [], rfl, by omega, rfl, rfl, by rw [Res.bind_ok, Int.toNat_natCast]⟩
  obtain ⟨n, s0, R, e1, e2, e3, hiv, hT⟩ := key
  rw [e1, e3] at hC
  obtain ⟨T, hTe⟩ : ∃ T, T = allR l k0 := ⟨_, rfl⟩
  rw [← hTe] at hT ⊢
  have HC := Lib.hid hC
  have HTE := Lib.hid hT
  have HIV := Lib.hid hiv
  clear h hC e1 e3 hiv hT hTe
  go_enter Tryz.func10, Tryz.ntmps10
  go_wp2_with (go_at_call 23; go_must ((with_reducible refine HC.out.mono ?_); rintro e w1 ⟨rfl, hs, hg⟩; have HS := Lib.hid hs; have HG := Lib.hid hg; clear hs hg))
  go_loopw [4, 5] (fun v i wr => ∃ (j : Nat) (s : RSt) (rows : List SlotG), j ≤ n ∧ i = .int .i64 j ∧ rows.length = j ∧ BInG w q l s rows v wr ∧ GInv l n j s rows R) (fun _ i _ => n - (intOf i).toNat)
  case atStart => exact ⟨0, s0, [], Nat.zero_le _, rfl, rfl, ⟨HS.out, HG.out, RowG.nil _ _⟩, HIV.out⟩
  case round =>
    obtain ⟨j, s, rows, hj, rfl, hlen, hb, hiv⟩ := hrel
    have HB := Lib.hid hb
    have HLEN := Lib.hid hlen
    have hle : rows.length ≤ 10000 := by omega
    cases s with
    | bad c a =>
      have x2 := why_bad hb.rs
      have dw : (c != 0) = true := by simpa using hb.rs.nz
      have dw2 : (c == 0) = false := by simpa using hb.rs.nz
      have HRE := Lib.hid (show T = .err c a by rw [HTE.out, show R = .err c a from hiv, Res.bind_err])
      have HEn := Lib.hid (fun W (g : Rs W q l (.bad c a)) => show Calls Tryz.prog 25 #[.pointer (some ⟨q, 0, none⟩)] W fun e w' => e = .returned (.tuple #[]) ∧ Rs w' q l (.bad c a) ∧ W.grownBy w' (some q) from end_ref g)
      clear hb hiv hlen hle
      by_cases hlt : j < n
      all_goals
        go_wp2_with (go_at_call 25; go_must ((with_reducible refine (HEn.out _ HB.out.rs).mono ?_); rintro e w2 ⟨rfl, hs, hg⟩; clear x2; have x2 := why_bad hs; have HS2 := Lib.hid hs; have HG2 := Lib.hid hg; clear hs hg))
        go_ret
        rw [HRE.out]
        exact ⟨rfl, HS2.out, gb_trans HB.out.g HG2.out⟩
    | «at» k =>
      have x2 := why_at hb.rs
      by_cases hlt : j < n
      · have HG := Lib.hid (show Calls Tryz.prog 24 #[.pointer (some ⟨q, 0, none⟩)] wr (fun e w' => ∃ (x : Gl) (A : Option Addr) (c : Nat), e = .returned (glV x A c) ∧ Rs w' q l (stOf (gR l k)) ∧ (∀ y k2, gR l k = .ok y k2 → x = y) ∧ wr.grownBy w' (some q)) from rget_gl hb.rs)
        have HST := Lib.hid (fun (x : Gl) (A : Option Addr) (c : Nat) (hv : ∀ y k2, gR l k = .ok y k2 → x = y) => GInv.step (A := A) (c := c) hiv hlt hv)
        clear hb hiv hlen
        go_wp2_with (first
          | (go_at_call 24; go_must ((with_reducible refine HG.out.mono ?_); intro e w2 hqq; obtain ⟨x, A, c, rfl, hs, hv, hg⟩ := hqq; have HV := Lib.hid hv; have HA2 := Lib.hid (HB.out.step hq hg hs); have hz2 := HA2.out.g.size; have HX := Lib.hid (Whole.made w2 46 (sC (x, A, c))); clear hs hg hv x2))
          | (at_builtin; (refine rowG_new rfl _ _ rfl w.heap.size _ rows rfl (HA2.out.alloc hq _).r w2.heap.size (x, A, c) rfl HX.out hle (Nat.le_trans hz2 (below_box w2 _).size) ?_; intro v3 w3 hr3 hg3; have HA3 := Lib.hid ((HA2.out.alloc hq _).more hq hg3 hr3); clear hr3 hg3)))
        go_roundw
        case rel => exact ⟨j + 1, _, rows ++ [(x, A, c)], by omega, by go_num, by rw [List.length_append, HLEN.out, List.length_singleton], HA3.out, HST.out x A c HV.out⟩
        case measure => simp [intOf]; omega
      · obtain rfl : j = n := by omega
        have hR : R = .ok (rows.map (·.1)) k := by
          have h1 : gsK l (j - j) k (rows.map (·.1)) = R := hiv
          rw [Nat.sub_self] at h1
          exact h1.symm
        by_cases hk : k < l.length
        · have HRE := Lib.hid (show T = .err 14 k by rw [HTE.out, hR, Res.bind_ok, if_pos hk])
          have HEn := Lib.hid (fun W (g : Rs W q l (.at k)) => show Calls Tryz.prog 25 #[.pointer (some ⟨q, 0, none⟩)] W fun e w' => e = .returned (.tuple #[]) ∧ Rs w' q l (.bad 14 k) ∧ W.grownBy w' (some q) from by have := end_ref g; rw [show endS l (.at k) = .bad 14 k from if_pos hk] at this; exact this)
          clear hb hiv hlen hle hR hk
          go_wp2_with (go_at_call 25; go_must ((with_reducible refine (HEn.out _ HB.out.rs).mono ?_); rintro e w2 ⟨rfl, hs, hg⟩; clear x2; have x2 := why_bad hs; have HS2 := Lib.hid hs; have HG2 := Lib.hid hg; clear hs hg))
          go_ret
          rw [HRE.out]
          exact ⟨rfl, HS2.out, gb_trans HB.out.g HG2.out⟩
        · have HRE := Lib.hid (show T = .ok (rows.map (·.1)) k by rw [HTE.out, hR, Res.bind_ok, if_neg hk])
          have HEn := Lib.hid (fun W (g : Rs W q l (.at k)) => show Calls Tryz.prog 25 #[.pointer (some ⟨q, 0, none⟩)] W fun e w' => e = .returned (.tuple #[]) ∧ Rs w' q l (.at k) ∧ W.grownBy w' (some q) from by have := end_ref g; rw [show endS l (.at k) = .at k from if_neg hk] at this; exact this)
          clear hb hiv hlen hle hR hk
          go_wp2_with (go_at_call 25; go_must ((with_reducible refine (HEn.out _ HB.out.rs).mono ?_); rintro e w2 ⟨rfl, hs, hg⟩; clear x2; have x2 := why_at hs; have HB2 := Lib.hid (HB.out.step hq hg hs); clear hs hg))
          go_ret
          rw [HRE.out]
          exact ⟨_, rows, rfl, HB2.out.r, rfl, HB2.out.rs, HB2.out.g⟩
/-- Same, of two that are alike and have no labels. -/
theorem rsame_gl {w : World} {x : Gl} {A B : Option Addr} {c d : Nat} (hx : x.i.l = []) :
    Calls Tryz.prog 11 #[glV x A c, glV x B d] w (BoolPost true w) := by
  have H1 := bxG_start w x A c
  have hb2 : Below w.heap.size w ((w.alloc (.cells (glC x A c) 46)).alloc (.cells (glC x B d) 46)) := (below_box w _).alloc (by simp) _
  have hS := refSame_any (w := (w.alloc (.cells (glC x A c) 46)).alloc (.cells (glC x B d) 46)) (A := A) (B := B) (c := c) (d := d) (i := x.i) (k := x.i) (by rw [hx]; intro j v hv; simp [cells32] at hv) (by rw [hx]; intro j v hv; simp [cells32] at hv) (by rw [hx]; simp) (by rw [hx]; simp)
  rw [same_self] at hS
  have HS := Lib.hid hS
  have HB := Lib.hid hb2
  clear hS hb2 H1 hx
  go_enter Tryz.func11, Tryz.ntmps11
  go_wp2_with (go_at_call 26; go_must ((with_reducible refine HS.out.mono ?_); rintro e w2 ⟨rfl, hb⟩; have HB2 := Lib.hid hb; clear hb))
  go_ret
  exact ⟨rfl, HB.out.trans (HB2.out.mono HB.out.size)⟩
end Go.Proofs.YtdgokeijhgoleaaGreatDoor

/- abort.Value of a function that ends well, whatever it hands back: []api.Global. Value of one that aborts. -/
namespace Go.Proofs.YtdgokeijhgoleaaGreatDoor
open Go.RowKit
set_option linter.unusedVariables false
set_option maxRecDepth 100000

theorem cfVGs (cap : Array Value) (w : World) : (callFunc 20 cap).run Tryz.prog w = .ok (.enter 20 cap) w := by kernel_rfl
section
variable {T : (Option Addr × Nat × Nat) → World → Prop}
/-- Value's own closure: what the step hands back lies in its cell. -/
theorem valClosGs {g : FuncId} {cap : Array Value} {b1 b4 q : Nat} {w : World} {z : Array Value} (hz : z.size = 1) (hcf : ∀ w : World, (callFunc g cap).run Tryz.prog w = .ok (.enter g cap) w)
    (h1 : Whole w b1 36 #[.func (.func g) #[] cap]) (h4 : Whole w b4 29 #[.slice none 0 0]) (hb : q < b4) (hT : ∀ x W W', T x W → W.grownBy W' (some b4) → T x W')
    (h : Calls Tryz.prog g cap w fun e w' => ∃ x, e = .returned (.slice x.1 x.2.1 x.2.2) ∧ T x w' ∧ w.grownBy w' (some q)) :
    Calls Tryz.prog 20 #[.pointer (some ⟨b1, 0, none⟩), .pointer (some ⟨b4, 0, none⟩)] w fun e w' =>
      e = .returned (.tuple #[]) ∧ ∃ x, T x w' ∧ Whole w' b4 29 #[.slice x.1 x.2.1 x.2.2] ∧ ∃ w1, w.grownBy w1 (some q) ∧ w1.grownBy w' (some b4) := by
  have hnil : ∀ w : World, (binOp BinOp.neq 36 (.func (.func g) #[] cap) .nilFunc).run Tryz.prog w = .ok (.bool true) w := fun _ => by kernel_rfl
  have c1 := h1.cell 0
  simp only [List.getElem?_toArray, List.getElem?_cons_zero] at c1
  have HH := Lib.hid h
  have H4 := Lib.hid h4
  have HT := Lib.hid hT
  clear h h1 h4 hT
  go_enter Tryz.func20, Tryz.ntmps20
  go_wp2_with fail
  refine HH.out.mono ?_
  rintro e w1 ⟨x, rfl, hs, hg⟩
  have HW := H4.out.grown hg (by simp only [ne_eq, Option.some.injEq]; omega)
  have k0 := HW.cell 0
  have f0 := HW.frozen 0
  simp only [List.getElem?_toArray, List.getElem?_cons_zero] at k0
  obtain ⟨p1, p2⟩ := put1 (u0 := .slice x.1 x.2.1 x.2.2) HW
  have F : Hid (T x (w1.setCell ⟨b4, 0, none⟩ (.slice x.1 x.2.1 x.2.2))) := HT.out _ _ _ hs p2
  have P1 := Lib.hid p1
  have P2 := Lib.hid p2
  have HG := Lib.hid hg
  clear p1 p2 hs hg HW hcf
  go_wp2_with fail
  go_end0
  exact ⟨rfl, x, F.out, P1.out, w1, HG.out, P2.out⟩
/-- What Value's closure leaves behind, seen from Value's beginning. -/
structure VSGs (T : (Option Addr × Nat × Nat) → World → Prop) (w : World) (q : Nat) (x : (Option Addr × Nat × Nat)) (w1 : World) : Prop where
  kept : T x w1
  grown : w.grownBy w1 (some q)
  val : Whole w1 (w.heap.size + 2) 29 #[.slice x.1 x.2.1 x.2.2]
  r2 : Whole w1 (w.heap.size + 1) 32 #[.int .i64 0, .int .i64 0]
/-- The world in which Value calls Out. -/
def vWorldGs (g : FuncId) (cap : Array Value) (w : World) : World :=
  ((w.alloc (.cells #[.func (.func g) #[] cap] 36)).alloc (.cells #[.int .i64 0, .int .i64 0] 32)).alloc (.cells #[.slice none 0 0] 29)
theorem vWorld_factsGs (g : FuncId) (cap : Array Value) (w : World) : (vWorldGs g cap w).heap.size = w.heap.size + 3 ∧ Whole (vWorldGs g cap w) w.heap.size 36 #[.func (.func g) #[] cap] ∧
    Whole (vWorldGs g cap w) (w.heap.size + 1) 32 #[.int .i64 0, .int .i64 0] ∧
    Whole (vWorldGs g cap w) (w.heap.size + 2) 29 #[.slice none 0 0] ∧ Below w.heap.size w (vWorldGs g cap w) := by
  have b1 := Whole.made w 36 #[.func (.func g) #[] cap]
  have b3 := Whole.made (w.alloc (.cells #[.func (.func g) #[] cap] 36)) 32 #[.int .i64 0, .int .i64 0]
  have b4 := Whole.made ((w.alloc (.cells #[.func (.func g) #[] cap] 36)).alloc (.cells #[.int .i64 0, .int .i64 0] 32)) 29 #[.slice none 0 0]
  simp only [World.size_alloc] at b3 b4
  exact ⟨by simp [vWorldGs], (b1.alloc _).alloc _, b3.alloc _, b4,
    (((Below.refl _ _).alloc (Nat.le_refl _) _).alloc (by simp) _).alloc (by simp; omega) _⟩
theorem value_outGs {g : FuncId} {cap : Array Value} {q : Nat} {w : World} (hcf : ∀ w : World, (callFunc g cap).run Tryz.prog w = .ok (.enter g cap) w) (hq : q < w.heap.size)
    (hT : ∀ x W W' b, w.heap.size ≤ b → b < w.heap.size + 4 → T x W → W.grownBy W' (some b) → T x W')
    (h : ∀ W, Below w.heap.size w W → w.heap.size + 4 ≤ W.heap.size → Calls Tryz.prog g cap W fun e w' => ∃ x, e = .returned (.slice x.1 x.2.1 x.2.2) ∧ T x w' ∧ W.grownBy w' (some q)) :
    Calls Tryz.prog 19 #[.func (.func 20) #[] #[.pointer (some ⟨w.heap.size, 0, none⟩), .pointer (some ⟨w.heap.size + 2, 0, none⟩)]] (vWorldGs g cap w) fun e w' => e = .returned (.agg #[.int .i64 0, .int .i64 0]) ∧ ∃ x, VSGs T w q x w' := by
  obtain ⟨hz, b1, b3, b4, hbe⟩ := vWorld_factsGs g cap w
  have b5 := Whole.made (vWorldGs g cap w) 32 #[.int .i64 0, .int .i64 0]
  have hbe2 : Below w.heap.size w ((vWorldGs g cap w).alloc (.cells #[.int .i64 0, .int .i64 0] 32)) := hbe.alloc (by omega) _
  have hc := valClosGs (T := T) (z := #[.slice none 0 0]) rfl hcf (b1.alloc (.cells #[.int .i64 0, .int .i64 0] 32)) (b4.alloc _) (by omega : q < w.heap.size + 2) (fun x W W' => hT x W W' _ (by omega) (by omega)) (h _ hbe2 (by rw [size_box]; omega))
  refine (out_any _ _ 0 0 (vWorldGs g cap w) (fun w1 => (∃ x, VSGs T w q x w1) ∧ Whole w1 (vWorldGs g cap w).heap.size 32 #[.int .i64 0, .int .i64 0]) (cfVGs _) (hc.mono ?_) (fun _ h => h.2)).mono ?_
  · rintro e w' ⟨rfl, x, hs, hv, w1, hg1, hg2⟩
    have hz2 : w.heap.size + 4 ≤ w1.heap.size := by have := hg1.size; simp only [World.size_alloc] at this; omega
    refine ⟨.inl ⟨rfl, rfl, rfl⟩, ⟨x, hs, ?_, hv, ?_⟩, ?_⟩
    · exact gb_before (gb_trans (gb_of_below (some q) hbe2) hg1) hg2 (fun g e => .inr (by injection e with e; omega))
    · exact ((b3.alloc _).grown hg1 (by simp only [ne_eq, Option.some.injEq]; omega)).grown hg2 (by simp only [ne_eq, Option.some.injEq]; omega)
    · exact (b5.grown hg1 (by simp only [ne_eq, Option.some.injEq]; omega)).grown hg2 (by simp only [ne_eq, Option.some.injEq]; omega)
  · rintro e w' ⟨rfl, w1, ⟨⟨x, hs⟩, _⟩, hg⟩
    rw [hz] at hg
    exact ⟨rfl, x, hT x _ _ _ (by omega) (by omega) hs.kept hg, gb_before hs.grown hg (fun g e => .inr (by injection e with e; omega)), hs.val.grown hg (by simp only [ne_eq, Option.some.injEq]; omega), hs.r2.grown hg (by simp only [ne_eq, Option.some.injEq]; omega)⟩

set_option maxHeartbeats 800000 in
/-- Value of a function that ends well. -/
theorem valueGs_ok {g : FuncId} {cap : Array Value} {q : Nat} {w : World} (hcf : ∀ w : World, (callFunc g cap).run Tryz.prog w = .ok (.enter g cap) w) (hq : q < w.heap.size)
    (hT : ∀ x W W' b, w.heap.size ≤ b → b < w.heap.size + 4 → T x W → W.grownBy W' (some b) → T x W')
    (h : ∀ W, Below w.heap.size w W → w.heap.size + 4 ≤ W.heap.size → Calls Tryz.prog g cap W fun e w' => ∃ x, e = .returned (.slice x.1 x.2.1 x.2.2) ∧ T x w' ∧ W.grownBy w' (some q)) :
    Calls Tryz.prog 7 #[.func (.func g) #[] cap] w fun e w' => ∃ x, e = .returned (.tuple #[.slice x.1 x.2.1 x.2.2, .agg #[.int .i64 0, .int .i64 0]]) ∧ T x w' ∧ w.grownBy w' (some q) := by
  have hv := value_outGs hcf hq hT h
  unfold vWorldGs at hv
  have HV := Lib.hid hv
  have HT := Lib.hid hT
  have hmf : ∀ (fn : Fn) (first cap : Array Value) (w : World), (Instr.makeFunc fn first cap).run Tryz.prog w = .ok (.func fn first cap) w := fun _ _ _ _ => rfl
  clear h hv hcf hT
  go_enter Tryz.func7, Tryz.ntmps7
  go_wp2_with (go_at_call 19; go_must (refine HV.out.mono ?_; rintro e w2 ⟨rfl, x, hl⟩; have k0 := fun o => (hl.val.alloc o).cell 0; have f8 := fun o => (hl.r2.alloc o).frozen 0; have f9 := fun o => (hl.r2.alloc o).frozen 1; have m8 := fun o => (hl.r2.alloc o).cell 0; have m9 := fun o => (hl.r2.alloc o).cell 1; simp only [List.getElem?_toArray, List.getElem?_cons_zero, List.getElem?_cons_succ] at k0 m8 m9; have hz := hl.grown.size; have HL := Lib.hid hl; clear hl))
  obtain ⟨p2, g2⟩ := put2 (u0 := .int .i64 0) (u1 := .int .i64 0) (HL.out.r2.alloc (.cells #[.int .i64 0, .int .i64 0] 32))
  have q8 := p2.cell 0
  have q9 := p2.cell 1
  simp only [List.getElem?_toArray, List.getElem?_cons_zero, List.getElem?_cons_succ] at q8 q9
  refine bodyPost_ret (v := .tuple #[.slice x.1 x.2.1 x.2.2, .agg #[.int .i64 0, .int .i64 0]]) (by simp [results, Tryz.results7, go_sem, q8, q9]) rfl ⟨x, rfl, ?_, ?_⟩
  · exact HT.out _ _ _ _ (by omega) (by omega) (HT.out _ _ _ w.heap.size (Nat.le_refl _) (by omega) HL.out.kept (gb_alloc (gb_refl _ _) _)) g2
  · exact gb_before (gb_alloc HL.out.grown _) g2 (fun g e => .inr (by injection e with e; omega))
end
/-- Value's own closure: what aborts goes on. -/
theorem valClosGsE {g : FuncId} {cap : Array Value} {b1 b4 q : Nat} {w : World} {c a : Int} (hcf : ∀ w : World, (callFunc g cap).run Tryz.prog w = .ok (.enter g cap) w)
    (h1 : Whole w b1 36 #[.func (.func g) #[] cap])
    (h : Calls Tryz.prog g cap w fun e w' => e = .panicked (stopP c a) ∧ w.grownBy w' (some q)) :
    Calls Tryz.prog 20 #[.pointer (some ⟨b1, 0, none⟩), .pointer (some ⟨b4, 0, none⟩)] w fun e w' => e = .panicked (stopP c a) ∧ w.grownBy w' (some q) := by
  have hnil : ∀ w : World, (binOp BinOp.neq 36 (.func (.func g) #[] cap) .nilFunc).run Tryz.prog w = .ok (.bool true) w := fun _ => by kernel_rfl
  have c1 := h1.cell 0
  simp only [List.getElem?_toArray, List.getElem?_cons_zero] at c1
  have HH := Lib.hid h
  clear h h1
  go_enter Tryz.func20, Tryz.ntmps20
  go_wp2_with fail
  refine HH.out.mono ?_
  rintro e w1 ⟨rfl, hg⟩
  exact ⟨rfl, rfl, hg⟩
theorem value_outGsE {g : FuncId} {cap : Array Value} {q : Nat} {w : World} {c a : Int} (hc : ¬ c = 0) (hcf : ∀ w : World, (callFunc g cap).run Tryz.prog w = .ok (.enter g cap) w) (hq : q < w.heap.size)
    (h : ∀ W, Below w.heap.size w W → w.heap.size + 4 ≤ W.heap.size → Calls Tryz.prog g cap W fun e w' => e = .panicked (stopP c a) ∧ W.grownBy w' (some q)) :
    Calls Tryz.prog 19 #[.func (.func 20) #[] #[.pointer (some ⟨w.heap.size, 0, none⟩), .pointer (some ⟨w.heap.size + 2, 0, none⟩)]] (vWorldGs g cap w) fun e w' => e = .returned (.agg #[.int .i64 c, .int .i64 a]) ∧
      w.grownBy w' (some q) ∧ w.heap.size + 3 ≤ w'.heap.size ∧ Whole w' (w.heap.size + 2) 29 #[.slice none 0 0] ∧ Whole w' (w.heap.size + 1) 32 #[.int .i64 0, .int .i64 0] := by
  obtain ⟨hz, b1, b3, b4, hbe⟩ := vWorld_factsGs g cap w
  have b5 := Whole.made (vWorldGs g cap w) 32 #[.int .i64 0, .int .i64 0]
  have hbe2 : Below w.heap.size w ((vWorldGs g cap w).alloc (.cells #[.int .i64 0, .int .i64 0] 32)) := hbe.alloc (by omega) _
  have hcl := valClosGsE (b4 := w.heap.size + 2) hcf (b1.alloc (.cells #[.int .i64 0, .int .i64 0] 32)) (h _ hbe2 (by rw [size_box]; omega))
  refine (out_any _ _ c a (vWorldGs g cap w) (fun w1 => ((vWorldGs g cap w).alloc (.cells #[.int .i64 0, .int .i64 0] 32)).grownBy w1 (some q)) (cfVGs _) (hcl.mono ?_) (fun w1 hg => b5.grown hg (by simp only [ne_eq, Option.some.injEq]; omega))).mono ?_
  · rintro e w' ⟨rfl, hg⟩
    exact ⟨.inr ⟨hc, rfl⟩, hg⟩
  · rintro e w' ⟨rfl, w1, hg1, hg2⟩
    have z1 := hg1.size
    have z2 := hg2.size
    rw [size_box] at z1
    rw [hz] at hg2
    exact ⟨rfl, gb_before (gb_trans (gb_of_below (some q) hbe2) hg1) hg2 (fun g e => .inr (by injection e with e; omega)), by omega,
      ((b4.alloc _).grown hg1 (by simp only [ne_eq, Option.some.injEq]; omega)).grown hg2 (by simp only [ne_eq, Option.some.injEq]; omega),
      ((b3.alloc _).grown hg1 (by simp only [ne_eq, Option.some.injEq]; omega)).grown hg2 (by simp only [ne_eq, Option.some.injEq]; omega)⟩
set_option maxHeartbeats 4000000 in
/-- Value of a function that aborts. -/
theorem valueGsE_any {g : FuncId} {cap : Array Value} {q : Nat} {w : World} {c a : Int} (hc : ¬ c = 0) (hcf : ∀ w : World, (callFunc g cap).run Tryz.prog w = .ok (.enter g cap) w) (hq : q < w.heap.size)
    (h : ∀ W, Below w.heap.size w W → w.heap.size + 4 ≤ W.heap.size → Calls Tryz.prog g cap W fun e w' => e = .panicked (stopP c a) ∧ W.grownBy w' (some q)) :
    Calls Tryz.prog 7 #[.func (.func g) #[] cap] w fun e w' => e = .returned (.tuple #[.slice none 0 0, .agg #[.int .i64 c, .int .i64 a]]) ∧ w.grownBy w' (some q) := by
  have hv := value_outGsE hc hcf hq h
  unfold vWorldGs at hv
  have HV := Lib.hid hv
  have dc : (c == 0) = false := by simpa using hc
  have hmf : ∀ (fn : Fn) (first cap : Array Value) (w : World), (Instr.makeFunc fn first cap).run Tryz.prog w = .ok (.func fn first cap) w := fun _ _ _ _ => rfl
  clear h hv hcf hc
  go_enter Tryz.func7, Tryz.ntmps7
  go_wp2_with (go_at_call 19; go_must (refine HV.out.mono ?_; rintro e w2 ⟨rfl, hg, hz, hv, hr2⟩; have HL := Lib.hid (show w.grownBy w2 (some q) ∧ w.heap.size + 3 ≤ w2.heap.size ∧ Whole w2 (w.heap.size + 2) 29 #[.slice none 0 0] ∧ Whole w2 (w.heap.size + 1) 32 #[.int .i64 0, .int .i64 0] from ⟨hg, hz, hv, hr2⟩); clear hg hz hv hr2))
  generalize hW : w2.alloc (.cells #[.int .i64 c, .int .i64 a] 32) = W at *
  have hz2 := HL.out.2.1
  have k3 : Whole W (w.heap.size + 2) 29 #[.slice none 0 0] := by rw [← hW]; exact HL.out.2.2.1.alloc _
  have k2 : Whole W (w.heap.size + 1) 32 #[.int .i64 0, .int .i64 0] := by rw [← hW]; exact HL.out.2.2.2.alloc _
  have k5 : Whole W w2.heap.size 32 #[.int .i64 c, .int .i64 a] := by rw [← hW]; exact Whole.made _ _ _
  have hgW : w.grownBy W (some q) := by rw [← hW]; exact gb_alloc HL.out.1 _
  clear hW
  have K2 := Lib.hid k2
  have KG := Lib.hid hgW
  have v0 := k3.cell 0
  have s0 := k5.cell 0
  have s1 := k5.cell 1
  have n0 := k2.cell 0
  have n1 := k2.cell 1
  have g0 := k2.frozen 0
  have g1 := k2.frozen 1
  have e2 : ¬ w2.heap.size = w.heap.size + 1 := by omega
  simp only [List.getElem?_toArray, List.getElem?_cons_zero, List.getElem?_cons_succ] at v0 s0 s1 n0 n1
  clear k2 k3 k5 hgW
  go_region
  all_goals
    go_wp2
    obtain ⟨p2, j2⟩ := put2 (u0 := .int .i64 c) (u1 := .int .i64 a) K2.out
    have q8 := p2.cell 0
    have q9 := p2.cell 1
    simp only [List.getElem?_toArray, List.getElem?_cons_zero, List.getElem?_cons_succ] at q8 q9
    have hfin := gb_before KG.out j2 (fun g e => .inr (by injection e with e; omega))
    refine bodyPost_ret (v := .tuple #[.slice none 0 0, .agg #[.int .i64 c, .int .i64 a]]) (by simp [results, Tryz.results7, go_sem, q8, q9]) rfl ⟨rfl, ?_⟩
    first | exact hfin | exact gb_drew hfin | exact ⟨hfin.os, hfin.tape, hfin.output, hfin.size, hfin.block⟩
end Go.Proofs.YtdgokeijhgoleaaGreatDoor

/- abort.Value of a function that ends well, whatever it hands back: api.Global. (By gen/genVal.py.) -/
namespace Go.Proofs.YtdgokeijhgoleaaGreatDoor
open Go.RowKit
set_option linter.unusedVariables false
set_option maxRecDepth 100000

section
variable {T : SlotG → World → Prop}
/-- What Value's closure leaves behind, seen from Value's beginning. -/
structure VSG (T : SlotG → World → Prop) (w : World) (q : Nat) (x : SlotG) (w1 : World) : Prop where
  kept : T x w1
  grown : w.grownBy w1 (some q)
  val : Whole w1 (w.heap.size + 3) 46 #[.int .u8 x.1.t.toNat, .bool x.1.m, .int .u8 x.1.i.op.toNat, .int .u64 x.1.i.a, .int .u64 x.1.i.b, .slice x.2.1 x.1.i.l.length x.2.2]
  r1 : Whole w1 (w.heap.size + 1) 46 #[.int .u8 0, .bool false, .int .u8 0, .int .u64 0, .int .u64 0, .slice none 0 0]
  r2 : Whole w1 (w.heap.size + 2) 32 #[.int .i64 0, .int .i64 0]
end
end Go.Proofs.YtdgokeijhgoleaaGreatDoor

/- abort.Value of a function that ends well, whatever it hands back: api.Instr. (By gen/genVal.py.) -/
namespace Go.Proofs.YtdgokeijhgoleaaGreatDoor
open Go.RowKit
set_option linter.unusedVariables false
set_option maxRecDepth 100000

section
variable {T : (I × Option Addr × Nat) → World → Prop}
/-- What Value's closure leaves behind, seen from Value's beginning. -/
structure VSI (T : (I × Option Addr × Nat) → World → Prop) (w : World) (q : Nat) (x : (I × Option Addr × Nat)) (w1 : World) : Prop where
  kept : T x w1
  grown : w.grownBy w1 (some q)
  val : Whole w1 (w.heap.size + 3) 44 #[.int .u8 x.1.op.toNat, .int .u64 x.1.a, .int .u64 x.1.b, .slice x.2.1 x.1.l.length x.2.2]
  r1 : Whole w1 (w.heap.size + 1) 44 #[.int .u8 0, .int .u64 0, .int .u64 0, .slice none 0 0]
  r2 : Whole w1 (w.heap.size + 2) 32 #[.int .i64 0, .int .i64 0]
end
end Go.Proofs.YtdgokeijhgoleaaGreatDoor

/- abort.Value of a function that aborts; scan.Over of any bytes. -/
namespace Go.Proofs.YtdgokeijhgoleaaGreatDoor
open Go.RowKit
set_option linter.unusedVariables false
set_option maxRecDepth 100000

/-- bytes.Clone of any bytes. -/
theorem clone_any {w : World} {A : Option Addr} {cap : Nat} {l : List UInt8} (hl : Lies w w.heap.size A (cells (nums l))) (hA : A = none → cap = 0) (hc : l.length ≤ 1000000) :
    Calls Tryz.prog 18 #[.slice A l.length cap] w (BytesL l w) := by
  by_cases h0 : 0 < l.length
  · exact clone_ok hl h0 hc
  · have hl0 : l = [] := List.eq_nil_of_length_eq_zero (by omega)
    subst hl0
    cases A with
    | none =>
      obtain rfl := hA rfl
      show Calls Tryz.prog 18 #[.slice none 0 0] w (BytesL [] w)
      have hnil : ∀ w : World, (binOp BinOp.eql 22 (.slice none 0 0) (.slice none 0 0)).run Tryz.prog w = .ok (.bool true) w := fun w => by
        simp only [binOp]
        simp [run_equal_slice_nil w 22 5 _ _ _ Tryz.underlying22]
      clear hl h0 hc hA
      go_enter Tryz.func18, Tryz.ntmps18
      go_wp2
      go_ret
      exact ⟨_, rfl, Row.nil _ _, Below.refl _ _⟩
    | some ad =>
      show Calls Tryz.prog 18 #[.slice (some ad) 0 cap] w (BytesL [] w)
      have hnil : ∀ w : World, (binOp BinOp.eql 22 (.slice (some ad) 0 cap) (.slice none 0 0)).run Tryz.prog w = .ok (.bool false) w := fun w => by
        simp only [binOp]
        simp [run_equal_slice_nil w 22 5 _ _ _ Tryz.underlying22]
      have R0 := Lib.hid (Row.made w [] w.heap.size w.heap.size rfl (Nat.le_refl _) (by simp))
      have HL := Lib.hid (hl.below (below_box w (.cells #[] 5)) (Nat.le_refl _))
      clear hl h0 hc hA
      go_enter Tryz.func18, Tryz.ntmps18
      go_wp2_with (at_builtin; (refine row_any rfl _ _ rfl w.heap.size _ [] rfl R0.out (some ad) 0 cap _ [] rfl rfl HL.out (fun e => by cases e) (by simp) (by simp) ?_; intro v2 w2 hr2 hb2; have HR2 := Lib.hid hr2; have HB2 := Lib.hid hb2; clear hr2 hb2))
      go_ret
      exact ⟨_, rfl, HR2.out, (below_box w _).trans HB2.out⟩
theorem over_any {w : World} {A : Option Addr} {cap : Nat} {l : List UInt8} (hl : Lies w w.heap.size A (cells (nums l))) (hA : A = none → cap = 0) (hc : l.length ≤ 1000000) :
    Calls Tryz.prog 6 #[.slice A l.length cap] w (Overs l w) := by
  have HC := Lib.hid (clone_any (cap := cap) hl hA hc)
  clear hl hA
  go_enter Tryz.func6, Tryz.ntmps6
  go_wp2_with (go_at_call 18; go_must ((with_reducible refine HC.out.mono ?_); intro e w1 h; obtain ⟨v, rfl, hr, hb⟩ := h; obtain ⟨A1, c1, rfl, h1, h2, hl1, _⟩ := lies_own hr; have HL := Lib.hid hl1; have H1 := Lib.hid h1; have H2 := Lib.hid h2; have HB := Lib.hid hb; clear hl1 hr h1 h2 hb))
  go_ret
  exact ⟨w1.heap.size, rfl, HB.out.size, ⟨A1, c1, Whole.made _ _ _, HL.out.below (below_box w1 _) (Nat.le_refl _), H1.out, H2.out, by simp⟩, HB.out.trans ((below_box w1 _).mono HB.out.size)⟩
end Go.Proofs.YtdgokeijhgoleaaGreatDoor

/- parse and Parse of an instruction's bytes. -/
namespace Go.Proofs.YtdgokeijhgoleaaGreatDoor
open Go.RowKit
set_option linter.unusedVariables false
set_option maxRecDepth 100000

/-- What is kept of an instruction that was read. -/
def KeepI (p : Nat) (l : List UInt8) (i : I) (k lo : Nat) (x : I × Option Addr × Nat) (W : World) : Prop :=
  x.1 = i ∧ Sc W p l k ∧ Lies W W.heap.size x.2.1 (cells32 i.l) ∧ ∀ a, x.2.1 = some a → lo ≤ a.block
theorem KeepI.on {p : Nat} {l : List UInt8} {i : I} {k lo : Nat} {x : I × Option Addr × Nat} {W W' : World} {b : Nat} (h : KeepI p l i k lo x W) (hg : W.grownBy W' (some b)) (h1 : p < b) (h2 : b < lo) : KeepI p l i k lo x W' := by
  obtain ⟨h3, h4, h5, h6⟩ := h
  exact ⟨h3, h4.grown hg (by simp only [ne_eq, Option.some.injEq]; omega) (fun g e => by injection e with e; omega), h5.keep hg (fun a ha => by have := h6 a ha; omega), h6⟩
/-- What parse hands back. -/
def Parsed (i : I) (n : Nat) (w : World) (e : Ending) (w' : World) : Prop :=
  ∃ A c, e = .returned (.tuple #[insV i A c, .int .i64 n, .agg #[.int .i64 0, .int .i64 0]]) ∧ Lies w' w'.heap.size A (cells32 i.l) ∧ Below w.heap.size w w' ∧ ∀ a, A = some a → w.heap.size ≤ a.block
theorem parsed_of {i : I} {A : Option Addr} {c n m : Nat} {w W : World} (hn : n = m) (h : Lies W W.heap.size A (cells32 i.l)) (hb : Below w.heap.size w W) (hf : ∀ a, A = some a → w.heap.size + 3 ≤ a.block) : Parsed i n w (.returned (.tuple #[insV i A c, .int .i64 m, .agg #[.int .i64 0, .int .i64 0]])) W.drew :=
  ⟨A, c, by rw [hn], h, hb.drew, fun a ha => by have := hf a ha; omega⟩
/-- The world in which parse's results are written. -/
structure ParseEnd (i : I) (A : Option Addr) (c p : Nat) (l : List UInt8) (w w1 w2 W : World) (n : Nat) : Prop where
  sc : Sc W p l n
  lab : Lies W W.heap.size A (cells32 i.l) ∧ ∀ a, A = some a → w.heap.size + 3 ≤ a.block
  bel : Below w.heap.size w W
  val : W.cell? ⟨w2.heap.size, 0, none⟩ = some (.int .u8 i.op.toNat) ∧ W.cell? ⟨w2.heap.size, 1, none⟩ = some (.int .u64 i.a) ∧ W.cell? ⟨w2.heap.size, 2, none⟩ = some (.int .u64 i.b) ∧ W.cell? ⟨w2.heap.size, 3, none⟩ = some (.slice A i.l.length c)
  ptr : W.cell? ⟨w1.heap.size, 0, none⟩ = some (.pointer (some ⟨p, 0, none⟩))
  stop : W.cell? ⟨w2.heap.size + 1, 0, none⟩ = some (.int .i64 0) ∧ W.cell? ⟨w2.heap.size + 1, 1, none⟩ = some (.int .i64 0)
  res : W.cell? ⟨w.heap.size + 1, 0, none⟩ = some (.int .u8 0) ∧ W.cell? ⟨w.heap.size + 1, 1, none⟩ = some (.int .u64 0) ∧ W.cell? ⟨w.heap.size + 1, 2, none⟩ = some (.int .u64 0) ∧ W.cell? ⟨w.heap.size + 1, 3, none⟩ = some (.slice none 0 0)
  free : W.frozen? ⟨w.heap.size + 1, 0, none⟩ = false ∧ W.frozen? ⟨w.heap.size + 1, 1, none⟩ = false ∧ W.frozen? ⟨w.heap.size + 1, 2, none⟩ = false ∧ W.frozen? ⟨w.heap.size + 1, 3, none⟩ = false
  res6 : W.cell? ⟨w.heap.size + 1 + 1, 0, none⟩ = some (.int .i64 0) ∧ W.cell? ⟨w.heap.size + 1 + 1, 1, none⟩ = some (.int .i64 0)
  free6 : W.frozen? ⟨w.heap.size + 1 + 1, 0, none⟩ = false ∧ W.frozen? ⟨w.heap.size + 1 + 1, 1, none⟩ = false
  w4 : Whole W (w.heap.size + 1) 44 #[.int .u8 0, .int .u64 0, .int .u64 0, .slice none 0 0]
  w6 : Whole W (w.heap.size + 1 + 1) 32 #[.int .i64 0, .int .i64 0]
  n1 : ¬ w2.heap.size = w.heap.size
  n2 : ¬ w2.heap.size = w.heap.size + 1
  n3 : ¬ w2.heap.size + 1 = w.heap.size
theorem ParseEnd.of {i : I} {A : Option Addr} {c p : Nat} {l : List UInt8} {w w0 w1 w2 : World} {n : Nat} (h0 : w0.heap.size = w.heap.size + 3) (hb0 : Below w.heap.size w w0) (h4 : Whole w0 (w.heap.size + 1) 44 #[.int .u8 0, .int .u64 0, .int .u64 0, .slice none 0 0]) (h6 : Whole w0 (w.heap.size + 2) 32 #[.int .i64 0, .int .i64 0])
    (hb : Below w0.heap.size w0 w1) (hz1 : w0.heap.size ≤ w1.heap.size) (hp : w0.heap.size ≤ p ∧ p < w1.heap.size) (hg : (w1.alloc (.cells #[.pointer (some ⟨p, 0, none⟩)] 24)).grownBy w2 (some p)) (hk : Sc w2 p l n ∧ Lies w2 w2.heap.size A (cells32 i.l) ∧ ∀ a, A = some a → w1.heap.size + 6 ≤ a.block) :
    ParseEnd i A c p l w w1 w2 ((w2.alloc (.cells (insC i A c) 44)).alloc (.cells #[.int .i64 0, .int .i64 0] 32)) n := by
  have hz2 := hg.size
  rw [size_box] at hz2
  obtain ⟨k1, k2, k3⟩ := hk
  have w4 := ((((h4.below hb).alloc (.cells #[.pointer (some ⟨p, 0, none⟩)] 24)).grown hg (by simp only [ne_eq, Option.some.injEq]; omega)).alloc (.cells (insC i A c) 44)).alloc (.cells #[.int .i64 0, .int .i64 0] 32)
  have w6 := ((((h6.below hb).alloc (.cells #[.pointer (some ⟨p, 0, none⟩)] 24)).grown hg (by simp only [ne_eq, Option.some.injEq]; omega)).alloc (.cells (insC i A c) 44)).alloc (.cells #[.int .i64 0, .int .i64 0] 32)
  have w7 := (((Whole.made w1 24 #[.pointer (some ⟨p, 0, none⟩)]).grown hg (by simp only [ne_eq, Option.some.injEq]; omega)).alloc (.cells (insC i A c) 44)).alloc (.cells #[.int .i64 0, .int .i64 0] 32)
  have w8 := (Whole.made w2 44 (insC i A c)).alloc (.cells #[.int .i64 0, .int .i64 0] 32)
  have w9 := Whole.made (w2.alloc (.cells (insC i A c) 44)) 32 #[.int .i64 0, .int .i64 0]
  rw [size_box] at w9
  refine ⟨(k1.alloc _).alloc _, ⟨lies_box (lies_box k2 _) _, fun a ha => by have := k3 a ha; omega⟩, ?_, ⟨w8.cell 0, w8.cell 1, w8.cell 2, w8.cell 3⟩, w7.cell 0, ⟨w9.cell 0, w9.cell 1⟩, ⟨w4.cell 0, w4.cell 1, w4.cell 2, w4.cell 3⟩, ⟨w4.frozen 0, w4.frozen 1, w4.frozen 2, w4.frozen 3⟩, ⟨w6.cell 0, w6.cell 1⟩, ⟨w6.frozen 0, w6.frozen 1⟩, w4, w6, by omega, by omega, by omega⟩
  have b1 : Below w.heap.size w (w1.alloc (.cells #[.pointer (some ⟨p, 0, none⟩)] 24)) := (hb0.trans (hb.mono (by omega))).alloc (by omega) _
  have b2 : Below w.heap.size w w2 := Below.grown b1 hg (by rw [size_box]; omega) (fun g e => by injection e with e; omega)
  exact (b2.alloc (by omega) _).alloc (by rw [size_box]; omega) _
theorem ParseEnd.fin {i : I} {A : Option Addr} {c p : Nat} {l : List UInt8} {w w1 w2 W : World} {n : Nat} (h : ParseEnd i A c p l w w1 w2 W n) (W6 : World)
    (hW : W6 = (((((W.setCell ⟨w.heap.size + 1, 0, none⟩ (.int .u8 i.op.toNat)).setCell ⟨w.heap.size + 1, 1, none⟩ (.int .u64 i.a)).setCell ⟨w.heap.size + 1, 2, none⟩ (.int .u64 i.b)).setCell ⟨w.heap.size + 1, 3, none⟩ (.slice A i.l.length c)).setCell ⟨w.heap.size + 1 + 1, 0, none⟩ (.int .i64 0)).setCell ⟨w.heap.size + 1 + 1, 1, none⟩ (.int .i64 0)) :
    Whole W6 (w.heap.size + 1) 44 (insC i A c) ∧ Whole W6 (w.heap.size + 1 + 1) 32 #[.int .i64 0, .int .i64 0] ∧ Lies W6 W6.heap.size A (cells32 i.l) ∧ Below w.heap.size w W6 := by
  subst hW
  obtain ⟨p1, g1⟩ := put4 (u0 := .int .u8 i.op.toNat) (u1 := .int .u64 i.a) (u2 := .int .u64 i.b) (u3 := .slice A i.l.length c) h.w4
  obtain ⟨p2, g2⟩ := put2 (u0 := .int .i64 0) (u1 := .int .i64 0) (h.w6.grown g1 (by simp only [ne_eq, Option.some.injEq]; omega))
  have hz := g1.size
  have hzw := h.w4.lt
  refine ⟨p1.grown g2 (by simp only [ne_eq, Option.some.injEq]; omega), p2, (h.lab.1.keep g1 (fun a ha => by have := h.lab.2 a ha; omega)).keep g2 (fun a ha => by have := h.lab.2 a ha; omega), ?_⟩
  have b1 : Below w.heap.size w _ := Below.grown h.bel g1 (by omega) (fun g e => by injection e with e; omega)
  exact Below.grown b1 g2 (by omega) (fun g e => by injection e with e; omega)
end Go.Proofs.YtdgokeijhgoleaaGreatDoor

/- The walk of ConstsReads. -/
namespace Go.Proofs.YtdgokeijhgoleaaGreatDoor
open Go.RowKit
set_option linter.unusedVariables false
set_option maxRecDepth 100000

/-- Both readers are laid: the scanner at p, the reference's at q, the scanner's variable behind it. -/
structure LR (w : World) (p q : Nat) (ms : List UInt8) (M : Option Addr) (cm : Nat) (W : World) : Prop where
  bel : Below w.heap.size w W
  tb : TbP p W
  sc : Sc W p ms 0
  rd : Whole W q 28 #[.slice M ms.length cm, .int .i64 0, .int .i64 0, .int .i64 0]
  vr : Whole W (q + 1) 24 #[.pointer (some ⟨p, 0, none⟩)]
  lo : w.heap.size ≤ p
  pq : p < q
  qz : q + 2 ≤ W.heap.size
theorem LR.of {w w1 w2 : World} {p : Nat} {ms : List UInt8} {M : Option Addr} {cm : Nat} (hT : Tabs w1) (hb1 : Below w.heap.size w w1) (hb2 : Below w1.heap.size w1 w2) (hp : w1.heap.size ≤ p) (hs : Sc w2 p ms 0) :
    LR w p w2.heap.size ms M cm ((w2.alloc (.cells #[.slice M ms.length cm, .int .i64 0, .int .i64 0, .int .i64 0] 28)).alloc (.cells #[.pointer (some ⟨p, 0, none⟩)] 24)) := by
  have hv := Whole.made (w2.alloc (.cells #[.slice M ms.length cm, .int .i64 0, .int .i64 0, .int .i64 0] 28)) 24 #[.pointer (some ⟨p, 0, none⟩)]
  rw [size_box] at hv
  have hz := hb1.size
  have hz2 := hb2.size
  have hb3 : Below w2.heap.size w2 ((w2.alloc (.cells #[.slice M ms.length cm, .int .i64 0, .int .i64 0, .int .i64 0] 28)).alloc (.cells #[.pointer (some ⟨p, 0, none⟩)] 24)) := below_two w2 _ _
  exact ⟨hb1.trans ((hb2.mono hz).trans (hb3.mono (by omega))), ⟨w1, hT, hp, hb2.trans (hb3.mono hz2)⟩, (hs.alloc _).alloc _, (Whole.made w2 _ _).alloc _, hv, by omega, hs.lt, by simp⟩
/-- The reference's reader, once the program's has read. -/
theorem LR.ref {w : World} {p q : Nat} {ms : List UInt8} {M : Option Addr} {cm : Nat} {W W4 : World} (h : LR w p q ms M cm W) (hg : W.grownBy W4 (some p)) (hm : Lies w w.heap.size M (cells (nums ms))) (hc : ms.length ≤ cm) (hx : cm ≤ maxLen) (o o' : Obj) :
    Rs ((W4.alloc o).alloc o') q ms (.at 0) ∧ Below w.heap.size w ((W4.alloc o).alloc o') := by
  have h1 := h.pq
  have h2 := h.lo
  have hz := hg.size
  have h3 := h.qz
  have hb4 : Below w.heap.size w W4 := Below.grown h.bel hg h.bel.size (fun g e => by injection e with e; omega)
  have hz0 := hb4.size
  have hb5 : Below w.heap.size w ((W4.alloc o).alloc o') := hb4.trans ((below_two W4 o o').mono hz0)
  have hr := ((h.rd.grown hg (by simp only [ne_eq, Option.some.injEq]; omega)).alloc o).alloc o'
  exact ⟨⟨M, cm, 0, hr, (hm.below hb5 (Nat.le_refl _)).more (by omega), hc, hx, rfl, Nat.zero_le _⟩, hb5⟩

/-- At the law's end, of bytes that are no constant expression: the Stop at b6, the instruction at b5, the reference's reader at q. -/
structure EndE (w : World) (b5 b6 q : Nat) (c a : Int) (u0 u1 : Value) (W : World) : Prop where
  bel : Below w.heap.size w W
  x : Whole W b5 44 #[.int .u8 0, .int .u64 0, .int .u64 0, .slice none 0 0]
  s : Whole W b6 32 #[.int .i64 c, .int .i64 a]
  r : Whole W q 28 #[u0, u1, .int .i64 c, .int .i64 a]
theorem EndE.on {w : World} {b5 b6 q : Nat} {c a : Int} {u0 u1 : Value} {W W' : World} (h : EndE w b5 b6 q c a u0 u1 W) (hb : Below W.heap.size W W') : EndE w b5 b6 q c a u0 u1 W' :=
  ⟨h.bel.trans (hb.mono h.bel.size), h.x.below hb, h.s.below hb, h.r.below hb⟩
abbrev CellsE (b5 b6 q : Nat) (c a : Int) (W : World) : Prop :=
  (W.cell? ⟨b5, 0, none⟩ = some (.int .u8 0) ∧ W.cell? ⟨b5, 1, none⟩ = some (.int .u64 0) ∧ W.cell? ⟨b5, 2, none⟩ = some (.int .u64 0) ∧ W.cell? ⟨b5, 3, none⟩ = some (.slice none 0 0)) ∧
  (W.cell? ⟨b6, 0, none⟩ = some (.int .i64 c) ∧ W.cell? ⟨b6, 1, none⟩ = some (.int .i64 a)) ∧ W.cell? ⟨q, 2, none⟩ = some (.int .i64 c) ∧ W.cell? ⟨q, 3, none⟩ = some (.int .i64 a)
theorem EndE.cells {w : World} {b5 b6 q : Nat} {c a : Int} {u0 u1 : Value} {W : World} (h : EndE w b5 b6 q c a u0 u1 W) : EndE w b5 b6 q c a u0 u1 W ∧ CellsE b5 b6 q c a W :=
  ⟨h, ⟨h.x.cell 0, h.x.cell 1, h.x.cell 2, h.x.cell 3⟩, ⟨h.s.cell 0, h.s.cell 1⟩, h.r.cell 2, h.r.cell 3⟩
/-- .. of bytes that begin with one. -/
structure EndO (w : World) (b5 b6 b8 p q : Nat) (ms : List UInt8) (i : I) (A2 : Option Addr) (c2 : Nat) (A3 : Option Addr) (c3 k : Nat) (W : World) : Prop where
  bel : Below w.heap.size w W
  x : Whole W b5 44 (insC i A2 c2)
  s : Whole W b6 32 #[.int .i64 0, .int .i64 0]
  y : Whole W b8 44 (insC i A3 c3)
  v : Whole W (q + 1) 24 #[.pointer (some ⟨p, 0, none⟩)]
  sc : Sc W p ms k
  r : Rs W q ms (.at k)
  l2 : LiesL W A2 i.l
  l3 : LiesL W A3 i.l
theorem EndO.on {w : World} {b5 b6 b8 p q : Nat} {ms : List UInt8} {i : I} {A2 : Option Addr} {c2 : Nat} {A3 : Option Addr} {c3 k : Nat} {W W' : World} (h : EndO w b5 b6 b8 p q ms i A2 c2 A3 c3 k W) (hb : Below W.heap.size W W') : EndO w b5 b6 b8 p q ms i A2 c2 A3 c3 k W' :=
  ⟨h.bel.trans (hb.mono h.bel.size), h.x.below hb, h.s.below hb, h.y.below hb, h.v.below hb, h.sc.below hb, h.r.below hb, h.l2.below hb, h.l3.below hb⟩
abbrev CellsO (b5 b6 b8 p q : Nat) (i : I) (A2 : Option Addr) (c2 : Nat) (A3 : Option Addr) (c3 k : Nat) (W : World) : Prop :=
  (W.cell? ⟨b5, 0, none⟩ = some (.int .u8 i.op.toNat) ∧ W.cell? ⟨b5, 1, none⟩ = some (.int .u64 i.a) ∧ W.cell? ⟨b5, 2, none⟩ = some (.int .u64 i.b) ∧ W.cell? ⟨b5, 3, none⟩ = some (.slice A2 i.l.length c2)) ∧
  (W.cell? ⟨b8, 0, none⟩ = some (.int .u8 i.op.toNat) ∧ W.cell? ⟨b8, 1, none⟩ = some (.int .u64 i.a) ∧ W.cell? ⟨b8, 2, none⟩ = some (.int .u64 i.b) ∧ W.cell? ⟨b8, 3, none⟩ = some (.slice A3 i.l.length c3)) ∧
  W.cell? ⟨b6, 0, none⟩ = some (.int .i64 0) ∧ W.cell? ⟨q + 1, 0, none⟩ = some (.pointer (some ⟨p, 0, none⟩)) ∧ W.cell? ⟨q, 1, none⟩ = some (.int .i64 k)
theorem EndO.cells {w : World} {b5 b6 b8 p q : Nat} {ms : List UInt8} {i : I} {A2 : Option Addr} {c2 : Nat} {A3 : Option Addr} {c3 k : Nat} {W : World} (h : EndO w b5 b6 b8 p q ms i A2 c2 A3 c3 k W) : EndO w b5 b6 b8 p q ms i A2 c2 A3 c3 k W ∧ CellsO b5 b6 b8 p q i A2 c2 A3 c3 k W :=
  ⟨h, ⟨h.x.cell 0, h.x.cell 1, h.x.cell 2, h.x.cell 3⟩, ⟨h.y.cell 0, h.y.cell 1, h.y.cell 2, h.y.cell 3⟩, h.s.cell 0, h.v.cell 0, at_at h.r⟩
theorem opR_nz {l : List UInt8} {k : Nat} {c a : Int} (h : opR l k = .err c a) : c ≠ 0 := by
  unfold opR at h
  cases hr : byteR l k with
  | err e b => rw [hr, Res.bind_err] at h; injection h with h1 h2; have := byteR_nz hr; omega
  | ok d p =>
    rw [hr, Res.bind_ok] at h
    by_cases hd : checkR d.toNat = 0
    · rw [if_pos hd] at h; cases h
    · rw [if_neg hd] at h; injection h with h1 h2; omega
theorem blockR_nz {l : List UInt8} {k : Nat} {c a : Int} (h : blockR l k = .err c a) : c ≠ 0 := by
  unfold blockR at h
  cases hr : byteR l k with
  | err e b => rw [hr, Res.bind_err] at h; injection h with h1 h2; have := byteR_nz hr; omega
  | ok d p =>
    rw [hr, Res.bind_ok] at h
    by_cases hd : blockZ d.toNat = 0
    · rw [if_pos hd] at h; cases h
    · rw [if_neg hd] at h; injection h with h1 h2; omega
theorem idxK_nz {l : List UInt8} {c a : Int} : ∀ (n q : Nat) (acc : List Int), idxK l n q acc = .err c a → c ≠ 0
  | 0, q, acc, h => by cases h
  | n + 1, q, acc, h => by
    unfold idxK at h
    cases hr : indexR l q with
    | err e b => rw [hr, Res.bind_err] at h; injection h with h1 h2; have := indexR_nz hr; omega
    | ok x p => rw [hr, Res.bind_ok] at h; exact idxK_nz n p _ h
theorem labelsR_nz {l : List UInt8} {k : Nat} {c a : Int} (h : labelsR l k = .err c a) : c ≠ 0 := by
  unfold labelsR at h
  cases hr : countR l k with
  | err e b =>
    rw [hr, Res.bind_err] at h
    injection h with h1 h2
    unfold countR atMostR at hr
    cases hi : indexR l k with
    | err e2 b2 => rw [hi, Res.bind_err] at hr; injection hr with h3 h4; have := indexR_nz hi; omega
    | ok v p =>
      rw [hi, Res.bind_ok] at hr
      by_cases hv : v ≤ 10000
      · rw [if_pos hv] at hr; cases hr
      · rw [if_neg hv] at hr; injection hr with h3 h4; omega
  | ok v p => rw [hr, Res.bind_ok] at h; exact idxK_nz _ _ _ h
theorem bind_nz {α β : Type} {r : Res α} {f : α → Nat → Res β} {c a : Int} (h : r.bind f = .err c a) (h1 : ∀ c a, r = .err c a → c ≠ 0) (h2 : ∀ v k c a, f v k = .err c a → c ≠ 0) : c ≠ 0 := by
  cases r with
  | err e b => rw [Res.bind_err] at h; injection h with g1 g2; subst g1; exact h1 _ _ rfl
  | ok v k => rw [Res.bind_ok] at h; exact h2 v k c a h
theorem bodyR_nz {l : List UInt8} {m : Nat} {o : UInt8} {k : Nat} {c a : Int} (h : bodyR m o l k = .err c a) : c ≠ 0 := by
  have no : ∀ {i : I} {k : Nat} {c a : Int}, Res.ok i k = .err c a → c ≠ 0 := fun h => by cases h
  unfold bodyR at h
  repeat' split at h
  · cases h
  · exact bind_nz h (fun _ _ => blockR_nz) (fun _ _ _ _ h => no h)
  · exact bind_nz h (fun _ _ => labelsR_nz) (fun _ _ _ _ h => bind_nz h (fun _ _ => indexR_nz) (fun _ _ _ _ h => no h))
  · exact bind_nz h (fun _ _ => indexR_nz) (fun _ _ _ _ h => bind_nz h (fun _ _ => noughtR_nz) (fun _ _ _ _ h => no h))
  · exact bind_nz h (fun _ _ => indexR_nz) (fun _ _ _ _ h => bind_nz h (fun _ _ => indexR_nz) (fun _ _ _ _ h => no h))
  · exact bind_nz h (fun _ _ => noughtR_nz) (fun _ _ _ _ h => no h)
  · exact bind_nz h (fun _ _ => intR_nz) (fun _ _ _ _ h => no h)
  · exact bind_nz h (fun _ _ => intR_nz) (fun _ _ _ _ h => no h)
  · exact bind_nz h (fun _ _ => indexR_nz) (fun _ _ _ _ h => no h)
theorem readR_err {l : List UInt8} {k : Nat} {c a : Int} (h : readR l k = .err c a) : ¬ c = 0 := by
  unfold readR at h
  refine bind_nz h (fun c a h => ?_) (fun i k1 c a h => ?_)
  · unfold getR at h
    exact bind_nz h (fun _ _ => opR_nz) (fun _ _ _ _ => bodyR_nz)
  · by_cases hz : crightZ i = 0
    · rw [if_pos hz] at h
      refine bind_nz h (fun _ _ => byteR_nz) (fun d k2 c a h => ?_)
      by_cases hd : d = 11
      · rw [if_pos hd] at h; cases h
      · rw [if_neg hd] at h; injection h with h1 h2; omega
    · rw [if_neg hz] at h; injection h with h1 h2; omega
theorem readR_len {l : List UInt8} {k : Nat} {i : I} {k' : Nat} (h : readR l k = .ok i k') : i.l.length ≤ 10000 := by
  unfold readR at h
  cases hr : getR l k with
  | err c a => rw [hr, Res.bind_err] at h; cases h
  | ok j p =>
    rw [hr, Res.bind_ok] at h
    by_cases hz : crightZ j = 0
    · rw [if_pos hz] at h
      cases hb : byteR l p with
      | err c a => rw [hb, Res.bind_err] at h; cases h
      | ok d p2 =>
        rw [hb, Res.bind_ok] at h
        by_cases hd : d = 11
        · rw [if_pos hd] at h
          injection h with h1 h2
          subst h1
          exact (getR_ok hr).2.1
        · rw [if_neg hd] at h; cases h
    · rw [if_neg hz] at h; cases h
theorem zero_same (w : World) : Calls Tryz.prog 26 #[.agg #[.int .u8 0, .int .u64 0, .int .u64 0, .slice none 0 0], .agg #[.int .u8 0, .int .u64 0, .int .u64 0, .slice none 0 0]] w (BoolPost true w) := by
  have := refSame_any (w := w) (A := none) (B := none) (c := 0) (d := 0) (i := ⟨0, 0, 0, []⟩) (k := ⟨0, 0, 0, []⟩) (fun j v hv => by simp [cells32] at hv) (fun j v hv => by simp [cells32] at hv) (by simp) (by simp)
  rw [show sameZ ⟨0, 0, 0, []⟩ ⟨0, 0, 0, []⟩ = true by unfold sameZ; simp] at this
  exact this
theorem EndE.of {w : World} {p q : Nat} {ms : List UInt8} {M : Option Addr} {cm : Nat} {W W4 w6 : World} {c a : Int} (h : LR w p q ms M cm W) (hg : W.grownBy W4 (some p))
    (hb5 : Below w.heap.size w ((W4.alloc (.cells #[.int .u8 0, .int .u64 0, .int .u64 0, .slice none 0 0] 44)).alloc (.cells #[.int .i64 c, .int .i64 a] 32)))
    (hr : Rs w6 q ms (.bad c a)) (hg6 : ((W4.alloc (.cells #[.int .u8 0, .int .u64 0, .int .u64 0, .slice none 0 0] 44)).alloc (.cells #[.int .i64 c, .int .i64 a] 32)).grownBy w6 (some q)) (o : Obj) :
    ∃ u0 u1, EndE w W4.heap.size (W4.heap.size + 1) q c a u0 u1 (w6.alloc o) := by
  have h1 := h.pq
  have h2 := h.lo
  have h3 := h.qz
  have hz := hg.size
  have hz5 := hb5.size
  obtain ⟨A, cap, j, hw, _, _, _, _⟩ := hr.badly
  have hs := Whole.made (W4.alloc (.cells #[.int .u8 0, .int .u64 0, .int .u64 0, .slice none 0 0] 44)) 32 #[.int .i64 c, .int .i64 a]
  rw [size_box] at hs
  have hb6 : Below w.heap.size w w6 := Below.grown hb5 hg6 hz5 (fun g e => by injection e with e; omega)
  exact ⟨_, _, hb6.alloc hb6.size _, (((Whole.made W4 _ _).alloc _).grown hg6 (by simp only [ne_eq, Option.some.injEq]; omega)).alloc _, (hs.grown hg6 (by simp only [ne_eq, Option.some.injEq]; omega)).alloc _, hw.alloc _⟩
theorem EndO.of {w : World} {p q : Nat} {ms : List UInt8} {M : Option Addr} {cm : Nat} {W W4 w6 : World} {i : I} {A2 A3 : Option Addr} {c2 c3 k : Nat} (h : LR w p q ms M cm W) (hg : W.grownBy W4 (some p))
    (hb5 : Below w.heap.size w ((W4.alloc (.cells (insC i A2 c2) 44)).alloc (.cells #[.int .i64 0, .int .i64 0] 32)))
    (hs4 : Sc W4 p ms k) (hl2 : Lies W4 W4.heap.size A2 (cells32 i.l)) (hf2 : ∀ a, A2 = some a → W.heap.size + 5 ≤ a.block)
    (hr : Rs w6 q ms (.at k)) (hl3 : Lies w6 w6.heap.size A3 (cells32 i.l)) (hg6 : ((W4.alloc (.cells (insC i A2 c2) 44)).alloc (.cells #[.int .i64 0, .int .i64 0] 32)).grownBy w6 (some q)) :
    EndO w W4.heap.size (W4.heap.size + 1) w6.heap.size p q ms i A2 c2 A3 c3 k (w6.alloc (.cells (insC i A3 c3) 44)) := by
  have h1 := h.pq
  have h2 := h.lo
  have h3 := h.qz
  have hz := hg.size
  have hz5 := hb5.size
  have hs := Whole.made (W4.alloc (.cells (insC i A2 c2) 44)) 32 #[.int .i64 0, .int .i64 0]
  rw [size_box] at hs
  have hb6 : Below w.heap.size w w6 := Below.grown hb5 hg6 hz5 (fun g e => by injection e with e; omega)
  have hl2' := (lies_box (lies_box hl2 (.cells (insC i A2 c2) 44)) (.cells #[.int .i64 0, .int .i64 0] 32)).keep hg6 (fun a ha => by have := hf2 a ha; omega)
  exact ⟨hb6.alloc hb6.size _, (((Whole.made W4 _ _).alloc _).grown hg6 (by simp only [ne_eq, Option.some.injEq]; omega)).alloc _, (hs.grown hg6 (by simp only [ne_eq, Option.some.injEq]; omega)).alloc _, Whole.made _ _ _,
    ((((h.vr.grown hg (by simp only [ne_eq, Option.some.injEq]; omega)).alloc _).alloc _).grown hg6 (by simp only [ne_eq, Option.some.injEq]; omega)).alloc _,
    (((hs4.alloc _).alloc _).grown hg6 (by simp only [ne_eq, Option.some.injEq]; omega) (fun g e => by injection e with e; omega)).alloc _, hr.alloc _, lies_box hl2' _, lies_box hl3 _⟩

end Go.Proofs.YtdgokeijhgoleaaGreatDoor
