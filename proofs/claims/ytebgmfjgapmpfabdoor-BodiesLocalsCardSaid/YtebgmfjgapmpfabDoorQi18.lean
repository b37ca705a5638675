/- The walk of BodiesLocals; a function's type by value: opened. -/
import Derived.Test.YtebgmfjgapmpfabDoorQi16
import Derived.Test.YtebgmfjgapmpfabDoorQi17
namespace Go.Proofs.YtebgmfjgapmpfabDoor
open Go.RowKit Go.ChangeShapes Go.WideShapes Go.ChangeAt Go.Joins Go.Deep
set_option linter.unusedVariables false
set_option maxRecDepth 100000

theorem open_ftL {H : Type} {enc : TypeId × Value → H} {w : World} {base b0 : Nat} {r : Reach} {sp : Nat → Bool} {held : Bool} {v : Value} {d : DataW H} {p : List MemPlace} (hv : Value.okWide Tryd.prog w r b0 23 v)
    (h : DataW.Trod enc Tryd.prog w base sp held 23 v d p) : ∃ x y : List UInt8, v = .agg #[.string (S x), .string (S y)] := by
  obtain ⟨v0, v1, y0, y1, n, rfl, _, _, h0, h1⟩ := open_agg2 Tryd.underlying23 (by kernel_rfl) (by kernel_rfl) hv h
  obtain ⟨x, hx, _⟩ := DataW.trod_string Tryd.underlying9 h0
  obtain ⟨y, hy, _⟩ := DataW.trod_string Tryd.underlying9 h1
  simp only [List.cons.injEq, and_true] at hx hy
  subst hx; subst hy
  exact ⟨x.data.toList, y.data.toList, by rw [S_of, S_of]⟩
set_option maxHeartbeats 4000000 in
theorem lawBdL {w : World} {A : Option Addr} {c : Nat} {l : List Lo} {ps rs : List UInt8} (hT : Tabs w) (hl : Los w A l) (hn : (l.length : Int) ≤ 9223372036854775807) :
    Calls Tryd.prog 3 #[.agg #[.string (S ps), .string (S rs)], .slice A l.length c] w fun e w' => e = .returned (.bool true) ∧ Below w.heap.size w w' := by
  have hb0 := below_box w (.cells #[.string (S ps), .string (S rs)] 23)
  have HB0 := Lib.hid hb0
  have HW0 := Lib.hid (Whole.made w 23 #[.string (S ps), .string (S rs)])
  have HAW := Lib.hid (bdawake_any _ (hT.below hb0))
  have HL := Lib.hid hl
  have hsz := S_size ps
  clear hT hb0 hl
  by_cases g1 : 300 < ps.length
  · have t1 : decide ((300 : Int) < (ps.length : Int)) = true := decide_eq_true (by omega)
    clear g1
    go_enter Tryd.func3, Tryd.ntmps3
    go_wp2_with (go_at_call 5; go_must ((with_reducible refine HAW.out.mono ?_); rintro e w1 ⟨rfl, hb⟩; have H1 := Lib.hid (HB0.out.trans (hb.mono HB0.out.size)); have c0 := (HW0.out.below hb).cell 0; simp only [List.getElem?_toArray, List.getElem?_cons_zero] at c0; clear hb))
    go_ret
    exact ⟨rfl, H1.out⟩
  have t1 : decide ((300 : Int) < (ps.length : Int)) = false := decide_eq_false (by omega)
  by_cases g2 : 50 < l.length
  · have t2 : decide ((50 : Int) < (l.length : Int)) = true := decide_eq_true (by omega)
    clear g1 g2
    go_enter Tryd.func3, Tryd.ntmps3
    go_wp2_with (go_at_call 5; go_must ((with_reducible refine HAW.out.mono ?_); rintro e w1 ⟨rfl, hb⟩; have H1 := Lib.hid (HB0.out.trans (hb.mono HB0.out.size)); have c0 := (HW0.out.below hb).cell 0; simp only [List.getElem?_toArray, List.getElem?_cons_zero] at c0; clear hb))
    go_ret
    exact ⟨rfl, H1.out⟩
  have t2 : decide ((50 : Int) < (l.length : Int)) = false := decide_eq_false (by omega)
  have HCn := Lib.hid (fun W (hb : Below w.heap.size w W) => cnt_any (c := c) (HL.out.below hb) hn)
  have HTy := Lib.hid (fun W (hb : Below w.heap.size w W) => bdtypes_any (c := c) (ps := ps) (rs := rs) (HL.out.below hb) (by omega) hn)
  have HRL := Lib.hid (fun W (hb : Below w.heap.size w W) => rloc_any (c := c) (HL.out.below hb) hn)
  by_cases hz : locGo 0 l < 0
  · have e := locGo_ge _ _ hz
    have hs0 : S ([] : List UInt8) = { data := #[] } := rfl
    rw [(cnt_no e).1, (cnt_no e).2] at HCn
    rw [if_pos hz, (cnt_no e).2, hs0] at HTy
    rw [e] at HRL
    clear g1 g2 hz e hs0 hn
    go_enter Tryd.func3, Tryd.ntmps3
    go_wp2_with (first
      | (go_at_call 5; go_must ((with_reducible refine HAW.out.mono ?_); rintro e w1 ⟨rfl, hb⟩; have H1 := Lib.hid (HB0.out.trans (hb.mono HB0.out.size)); have HX1 := Lib.hid (HW0.out.below hb); have c0 := HX1.out.cell 0; simp only [List.getElem?_toArray, List.getElem?_cons_zero] at c0; clear hb))
      | (go_at_call 6; go_must ((with_reducible refine (HCn.out _ H1.out).mono ?_); rintro e w2 ⟨rfl, hb⟩; clear c0; have H2 := Lib.hid (H1.out.trans (hb.mono H1.out.size)); have HX2 := Lib.hid (HX1.out.below hb); have c0 := HX2.out.cell 0; have c1 := HX2.out.cell 1; simp only [List.getElem?_toArray, List.getElem?_cons_zero, List.getElem?_cons_succ] at c0 c1; clear hb))
      | (go_at_call 7; go_must ((with_reducible refine (HTy.out _ H2.out).mono ?_); rintro e w3 ⟨rfl, hb⟩; clear c0 c1; have H3 := Lib.hid (H2.out.trans (hb.mono H2.out.size)); clear hb))
      | (go_at_call 8; go_must ((with_reducible refine (HRL.out _ H3.out).mono ?_); rintro e w4 ⟨rfl, rfl⟩)))
    go_ret
    exact ⟨rfl, H3.out⟩
  · obtain ⟨q, hq⟩ : ∃ q : Nat, locGo 0 l = (q : Int) := ⟨(locGo 0 l).toNat, by omega⟩
    have HRT := Lib.hid (fun W (hb : Below w.heap.size w W) => rtypes_any (c := c) (ps := ps) (rs := rs) (HL.out.below hb) (by omega) (by omega) hn)
    rw [(cnt_yes hq).1, (cnt_yes hq).2] at HCn
    rw [if_neg hz, (cnt_yes hq).2] at HTy
    rw [hq] at HRL
    have d0 : decide ((q : Int) < 0) = false := decide_eq_false (by omega)
    obtain ⟨y, hy⟩ : ∃ y, y = ps ++ typL l := ⟨_, rfl⟩
    rw [← hy] at HTy HRT
    clear g1 g2 hz hq hn hy
    go_enter Tryd.func3, Tryd.ntmps3
    go_wp2_with (first
      | (go_at_call 5; go_must ((with_reducible refine HAW.out.mono ?_); rintro e w1 ⟨rfl, hb⟩; have H1 := Lib.hid (HB0.out.trans (hb.mono HB0.out.size)); have HX1 := Lib.hid (HW0.out.below hb); have c0 := HX1.out.cell 0; simp only [List.getElem?_toArray, List.getElem?_cons_zero] at c0; clear hb))
      | (go_at_call 6; go_must ((with_reducible refine (HCn.out _ H1.out).mono ?_); rintro e w2 ⟨rfl, hb⟩; clear c0; have H2 := Lib.hid (H1.out.trans (hb.mono H1.out.size)); have HX2 := Lib.hid (HX1.out.below hb); have c0 := HX2.out.cell 0; have c1 := HX2.out.cell 1; simp only [List.getElem?_toArray, List.getElem?_cons_zero, List.getElem?_cons_succ] at c0 c1; clear hb))
      | (go_at_call 7; go_must ((with_reducible refine (HTy.out _ H2.out).mono ?_); rintro e w3 ⟨rfl, hb⟩; clear c0 c1; have H3 := Lib.hid (H2.out.trans (hb.mono H2.out.size)); have HX3 := Lib.hid (HX2.out.below hb); have c0 := HX3.out.cell 0; have c1 := HX3.out.cell 1; simp only [List.getElem?_toArray, List.getElem?_cons_zero, List.getElem?_cons_succ] at c0 c1; clear hb))
      | (go_at_call 8; go_must ((with_reducible refine (HRL.out _ H3.out).mono ?_); rintro e w4 ⟨rfl, rfl⟩))
      | (go_at_call 9; go_must ((with_reducible refine (HRT.out _ H3.out).mono ?_); rintro e w5 ⟨rfl, hb⟩; have H5 := Lib.hid (H3.out.trans (hb.mono H3.out.size)); clear hb)))
    go_ret
    exact ⟨rfl, H5.out⟩
end Go.Proofs.YtebgmfjgapmpfabDoor
