/- The reference's Shape, Right, Types, Same of bodies. -/
import Derived.Test.YtebgmfjgapmpfaaGreatDoorQb02
import Derived.Test.YtebgmfjgapmpfaaGreatDoorQb03
import Derived.Test.YtebgmfjgapmpfaaGreatDoorQb05
import Derived.Test.YtebgmfjgapmpfaaGreatDoorQa06
import Derived.Deep.DeepMust
namespace Go.Proofs.YtebgmfjgapmpfaaGreatDoor
open Go.RowKit
set_option linter.unusedVariables false
set_option maxRecDepth 100000

/-- The first group's type that may not be. -/
def tyGo : List Lo → Int
  | [] => 0
  | x :: r => if valueZ x.t.toNat ≠ 0 then valueZ x.t.toNat else tyGo r
theorem ty_drop {l : List Lo} {k : Nat} {x : Lo} (h : l[k]? = some x) : tyGo (l.drop k) = if valueZ x.t.toNat ≠ 0 then valueZ x.t.toNat else tyGo (l.drop (k + 1)) := by
  rw [lo_drop h]
  rfl
/-- May it be, but for its instructions? May it be? -/
def bshZ (x : Bd) : Int := if locGo 0 x.ls < 0 then 23 else if tyGo x.ls ≠ 0 then tyGo x.ls else shapeZ x.b
def brZ (x : Bd) : Int := if bshZ x ≠ 0 then bshZ x else errZ x.b
set_option maxHeartbeats 4000000 in
theorem rbshape_any {w : World} {x : Bd} {L : Option Addr} {l : Nat} {B : Option Addr} {c : Nat} (hl : Los w L x.ls) (hi : Ins w B x.b) (hn : (x.ls.length : Int) ≤ 9223372036854775807) (hb : x.b.length ≤ 20000) :
    Calls Tryz.prog 36 #[bdV x L l B c] w (IntPost (bshZ x) w) := by
  have h0 := bxBd_start w x L l B c
  have H0 := Lib.hid h0
  have hl1 := hl.below (below_box w (.cells (bdC x L l B c) 70))
  have HL := Lib.hid hl1
  have HLo := Lib.hid (rloc_any (c := l) hl1 hn)
  have HS := Lib.hid (fun W (h : Below w.heap.size w W) => refShape_any (c := c) (hi.below h) hb)
  have HV := Lib.hid (fun W (t : UInt8) => refValue_any (t.toNat : Int) W)
  obtain ⟨c0, c1⟩ := h0.2
  obtain ⟨R, hR⟩ : ∃ R, R = bshZ x := ⟨_, rfl⟩
  rw [← hR]
  clear hl hi hl1 h0
  unfold bshZ at hR
  by_cases hz : locGo 0 x.ls < 0
  · rw [if_pos hz] at hR
    have e := locGo_ge _ _ hz
    rw [e] at HLo
    subst hR
    clear hz e
    go_enter Tryz.func36, Tryz.ntmps36
    go_wp2_with (go_at_call 73; go_must ((with_reducible refine HLo.out.mono ?_); rintro e w' ⟨rfl, rfl⟩))
    go_ret
    exact ⟨rfl, bxBd_bel H0.out⟩
  · rw [if_neg hz] at hR
    have d0 : decide (locGo 0 x.ls < 0) = false := decide_eq_false hz
    obtain ⟨z, hzz⟩ : ∃ z, z = locGo 0 x.ls := ⟨_, rfl⟩
    rw [← hzz] at HLo d0
    clear hz hzz
    have HR := Lib.hid hR
    clear hR
    go_enter Tryz.func36, Tryz.ntmps36
    go_wp2_with (go_at_call 73; go_must ((with_reducible refine HLo.out.mono ?_); rintro e w' ⟨rfl, rfl⟩))
    generalize w.alloc (.cells (bdC x L l B c) 70) = W at *
    go_loopw [3] (fun i wr => ∃ (k : Nat), k ≤ x.ls.length ∧ i = .int .i64 k ∧ tyGo (x.ls.drop k) = tyGo x.ls ∧ wr = W) (fun i _ => x.ls.length - (intOf i).toNat)
    case atStart => exact ⟨0, Nat.zero_le _, rfl, rfl, rfl⟩
    case round =>
      obtain ⟨k, hk, rfl, hg, rfl⟩ := hrel
      by_cases hlt : k < x.ls.length
      · obtain ⟨y, hy⟩ : ∃ y, x.ls[k]? = some y := ⟨_, List.getElem?_eq_getElem hlt⟩
        obtain ⟨b, off, rfl, hbl, k0, k1⟩ := HL.out k y hy
        rw [ty_drop hy] at hg
        have wt : IntKind.i64.wrap (y.t.toNat : Int) = y.t.toNat := by rw [IntKind.wrap_i64]; have := u8_le y.t; omega
        have HVy := Lib.hid (fun W => HV.out W y.t)
        obtain ⟨v, hv⟩ : ∃ v, v = valueZ y.t.toNat := ⟨_, rfl⟩
        rw [← hv] at hg HVy
        clear hy hv
        by_cases hz : v = 0
        · subst hz
          have hg2 : tyGo (x.ls.drop (k + 1)) = tyGo x.ls := by simpa using hg
          have HG := Lib.hid hg2
          clear hg hg2
          go_wp2_with (go_at_call 54; go_must ((with_reducible refine (HVy.out _).mono ?_); rintro e w' ⟨rfl, rfl⟩))
          go_roundw
          case rel => exact ⟨k + 1, by omega, by go_num, HG.out, trivial⟩
          case measure => simp [intOf]; omega
        · have dz : (v != 0) = true := zb_of (by simpa using hz)
          rw [if_pos hz] at hg
          have HG := Lib.hid (show R = v by rw [HR.out, ← hg, if_pos hz])
          clear hg hz
          go_wp2_with (go_at_call 54; go_must ((with_reducible refine (HVy.out _).mono ?_); rintro e w' ⟨rfl, rfl⟩))
          go_ret
          have e := HG.out
          subst e
          exact ⟨rfl, bxBd_bel H0.out⟩
      · have hkn : k = x.ls.length := by omega
        rw [hkn, List.drop_length] at hg
        have HG := Lib.hid (show R = shapeZ x.b by rw [HR.out, ← hg]; rfl)
        have HSW := Lib.hid (HS.out _ (bxBd_bel H0.out))
        clear hg hkn
        go_wp2_with (go_at_call 74; go_must ((with_reducible refine HSW.out.mono ?_); rintro e w2 ⟨rfl, hb⟩; have H2 := Lib.hid (bxBd_on H0.out hb); clear hb))
        go_ret
        have e := HG.out
        subst e
        exact ⟨rfl, bxBd_bel H2.out⟩
set_option maxHeartbeats 4000000 in
theorem rbright_any {w : World} {x : Bd} {L : Option Addr} {l : Nat} {B : Option Addr} {c : Nat} (hl : Los w L x.ls) (hi : Ins w B x.b) (hn : (x.ls.length : Int) ≤ 9223372036854775807) (hb : x.b.length ≤ 20000) (hok : ∀ i ∈ x.b, i.Ok ∧ (i.l.length : Int) ≤ 9223372036854775807) :
    Calls Tryz.prog 33 #[bdV x L l B c] w (IntPost (brZ x) w) := by
  have h0 := bxBd_start w x L l B c
  have H0 := Lib.hid h0
  have HS := Lib.hid (rbshape_any (l := l) (c := c) (hl.below h0.1.2) (hi.below h0.1.2) hn hb)
  have HI := Lib.hid hi
  have HOK := Lib.hid hok
  obtain ⟨R, hR⟩ : ∃ R, R = brZ x := ⟨_, rfl⟩
  rw [← hR]
  clear hl hi h0 hok
  unfold brZ at hR
  obtain ⟨z, hzz⟩ : ∃ z, z = bshZ x := ⟨_, rfl⟩
  rw [← hzz] at HS hR
  clear hzz
  by_cases hz : z = 0
  · subst hz
    have HR := Lib.hid (show R = errZ x.b by simpa using hR)
    clear hR
    go_enter Tryz.func33, Tryz.ntmps33
    go_wp2_with (go_at_call 36; go_must ((with_reducible refine HS.out.mono ?_); rintro e w1 ⟨rfl, hb⟩; have H1 := Lib.hid (bxBd_on H0.out hb); clear hb))
    go_loopw [4] (fun i wr => ∃ (k : Nat), k ≤ x.b.length ∧ i = .int .i64 k ∧ errZ (x.b.drop k) = errZ x.b ∧ BxBd w w.heap.size x L l B c wr) (fun i _ => x.b.length - (intOf i).toNat)
    case atStart => exact ⟨0, Nat.zero_le _, rfl, rfl, H1.out⟩
    case round =>
      obtain ⟨k, hk, rfl, hg, hbx⟩ := hrel
      have hbx' := hbx
      obtain ⟨⟨_, hbel⟩, c0, c1⟩ := hbx'
      have HB := Lib.hid hbx
      by_cases hlt : k < x.b.length
      · obtain ⟨i, hx⟩ : ∃ i, x.b[k]? = some i := ⟨_, List.getElem?_eq_getElem hlt⟩
        obtain ⟨b, off, B1, d, rfl, hbl, ⟨k0, k1, k2, k3⟩, _⟩ := (HI.out.below hbel) k i hx
        have hio := HOK.out i (List.mem_of_getElem? hx)
        have HRR := Lib.hid (fun W => refRight_any i B1 d W hio.1 hio.2)
        rw [errZ_drop hx] at hg
        obtain ⟨v, hv⟩ : ∃ v, v = rightZ i := ⟨_, rfl⟩
        rw [← hv] at hg HRR
        clear hx hv hbx hio hbel
        by_cases hz : v = 0
        · subst hz
          have HG := Lib.hid (show errZ (x.b.drop (k + 1)) = errZ x.b by simpa using hg)
          clear hg
          go_wp2_with (go_at_call 65; go_must ((with_reducible refine (HRR.out _).mono ?_); rintro e w2 ⟨rfl, hb⟩; have H2 := Lib.hid (bxBd_on HB.out hb); clear hb))
          go_roundw
          case rel => exact ⟨k + 1, by omega, by go_num, HG.out, H2.out⟩
          case measure => simp [intOf]; omega
        · have dz : (v != 0) = true := zb_of (by simpa using hz)
          rw [if_pos hz] at hg
          have HG := Lib.hid (show R = v by rw [HR.out, ← hg])
          clear hg hz
          go_wp2_with (go_at_call 65; go_must ((with_reducible refine (HRR.out _).mono ?_); rintro e w2 ⟨rfl, hb⟩; have H2 := Lib.hid (bxBd_on HB.out hb); clear hb))
          go_ret
          have e := HG.out
          subst e
          exact ⟨rfl, bxBd_bel H2.out⟩
      · have hkn : k = x.b.length := by omega
        rw [hkn, List.drop_length] at hg
        have HG := Lib.hid (show R = 0 by rw [HR.out, ← hg]; rfl)
        clear hg hkn hbx hbel
        go_wp2
        go_ret
        have e := HG.out
        subst e
        exact ⟨rfl, bxBd_bel HB.out⟩
  · have dz : (z != 0) = true := zb_of (by simpa using hz)
    rw [if_pos hz] at hR
    subst hR
    clear hz
    go_enter Tryz.func33, Tryz.ntmps33
    go_wp2_with (go_at_call 36; go_must ((with_reducible refine HS.out.mono ?_); rintro e w1 ⟨rfl, hb⟩; have H1 := Lib.hid (bxBd_on H0.out hb); clear hb))
    go_ret
    exact ⟨rfl, bxBd_bel H1.out⟩
/-- Two groups that are alike. -/
theorem neq_lo (x : Lo) (W : World) : (binOp BinOp.neq 105 (.agg #[.int .u32 x.n.toNat, .int .u8 x.t.toNat]) (.agg #[.int .u32 x.n.toNat, .int .u8 x.t.toNat])).run Tryz.prog W = .ok (.bool false) W := by
  go_simp
set_option maxHeartbeats 2000000 in
/-- Same, of two that are alike. -/
theorem rsame_bd {w : World} {x : Bd} {L M : Option Addr} {l m : Nat} {B D : Option Addr} {c d : Nat} (hL : Los w L x.ls) (hM : Los w M x.ls) (hB : Ins w B x.b) (hD : Ins w D x.b) (hn : (x.ls.length : Int) ≤ 9223372036854775807) (hb : x.b.length ≤ 1000) (hll : ∀ i ∈ x.b, i.l.length ≤ 100) :
    Calls Tryz.prog 41 #[bdV x L l B c, bdV x M m D d] w (BoolPost true w) := by
  have H1 := Whole.made w 70 (bdC x L l B c)
  have H2 := made_2 w (.cells (bdC x L l B c) 70) 70 (bdC x M m D d)
  have hb2 : Below w.heap.size w ((w.alloc (.cells (bdC x L l B c) 70)).alloc (.cells (bdC x M m D d) 70)) := (below_box w _).alloc (by simp) _
  have HS := Lib.hid (sameAll_any (c := c) (d := d) (hB.below hb2) (hD.below hb2) hb hll)
  have HB := Lib.hid hb2
  have HX := Lib.hid (H1.alloc (.cells (bdC x M m D d) 70))
  have HY := Lib.hid H2
  have HL := Lib.hid (hL.below hb2)
  have HM := Lib.hid (hM.below hb2)
  have dn : ((x.ls.length : Int) != x.ls.length) = false := by simp
  clear hb2 H1 H2 hL hM hB hD hll
  go_enter Tryz.func41, Tryz.ntmps41
  go_wp2_with (go_at_call 83; go_must ((with_reducible refine HS.out.mono ?_); rintro e w2 ⟨rfl, hb⟩; have HB2 := Lib.hid hb; clear hb))
  have HL2 := Lib.hid (HL.out.below HB2.out)
  have HM2 := Lib.hid (HM.out.below HB2.out)
  have x0 := (HX.out.below HB2.out).cell 0
  have y0 := (HY.out.below HB2.out).cell 0
  simp only [List.getElem?_toArray, List.getElem?_cons_zero] at x0 y0
  go_loopw [5] (fun i wr => ∃ j q : Nat, j ≤ x.ls.length ∧ i = .int .i64 j ∧ wr = w2.drewN q) (fun i _ => x.ls.length - (intOf i).toNat)
  case atStart => exact ⟨0, 0, Nat.zero_le _, rfl, rfl⟩
  case round =>
    obtain ⟨j, q, hj, rfl, rfl⟩ := hrel
    by_cases hlt : j < x.ls.length
    · obtain ⟨v, hv⟩ : ∃ v, x.ls[j]? = some v := ⟨_, List.getElem?_eq_getElem hlt⟩
      obtain ⟨b1, o1, rfl, _, g1, g1'⟩ := HL2.out j v hv
      obtain ⟨b2, o2, rfl, _, g2, g2'⟩ := HM2.out j v hv
      have hc := neq_lo v
      clear hv
      go_wp2_with fail
      go_region
      go_wp2
      go_roundw
      case measure => simp [intOf]; omega
      case rel => exact ⟨j + 1, q + 1, by omega, by go_num, rfl⟩
    · obtain rfl : j = x.ls.length := by omega
      go_wp2
      go_ret
      exact ⟨rfl, below_drewN (HB.out.trans (HB2.out.mono HB.out.size)) _⟩
end Go.Proofs.YtebgmfjgapmpfaaGreatDoor

/- bodies.Count, bodies.Right. -/
namespace Go.Proofs.YtebgmfjgapmpfaaGreatDoor
open Go.RowKit
set_option linter.unusedVariables false
set_option maxRecDepth 100000

/-- How many; the error. -/
def cntN (l : List Lo) : Int := if locGo 0 l < 0 then 0 else locGo 0 l
def cntE (l : List Lo) : Int := if locGo 0 l < 0 then 23 else 0
theorem cnt_no {l : List Lo} (h : locGo 0 l = -1) : cntN l = 0 ∧ cntE l = 23 := by unfold cntN cntE; rw [h]; decide
theorem cnt_yes {l : List Lo} {m : Nat} (h : locGo 0 l = (m : Int)) : cntN l = m ∧ cntE l = 0 := by
  unfold cntN cntE
  rw [h, if_neg (by omega), if_neg (by omega)]
  exact ⟨rfl, rfl⟩
theorem ret_i {a c : Int} (h : a = c) : Ending.returned (.int .i64 a) = .returned (.int .i64 c) := by rw [h]
theorem ret_ints {a b c d : Int} (h : a = c) (h2 : b = d) : Ending.returned (.tuple #[.int .i64 a, .int .i64 b]) = .returned (.tuple #[.int .i64 c, .int .i64 d]) := by rw [h, h2]

set_option maxHeartbeats 4000000 in
theorem cnt_any {w : World} {A : Option Addr} {c : Nat} {l : List Lo} (hl : Los w A l) (hn : (l.length : Int) ≤ 9223372036854775807) :
    Calls Tryz.prog 70 #[.slice A l.length c] w fun e w' => e = .returned (.tuple #[.int .i64 (cntN l), .int .i64 (cntE l)]) ∧ Below w.heap.size w w' := by
  have HL := Lib.hid hl
  obtain ⟨N, hN⟩ : ∃ N, N = cntN l := ⟨_, rfl⟩
  obtain ⟨E, hE⟩ : ∃ E, E = cntE l := ⟨_, rfl⟩
  have HNO := Lib.hid (fun h : locGo 0 l = -1 => show N = 0 ∧ E = 23 by rw [hN, hE]; exact cnt_no h)
  have HYES := Lib.hid (fun (m : Nat) (h : locGo 0 l = (m : Int)) => show N = m ∧ E = 0 by rw [hN, hE]; exact cnt_yes h)
  rw [← hN, ← hE]
  obtain ⟨R, hR⟩ : ∃ R, R = locGo 0 l := ⟨_, rfl⟩
  rw [← hR] at HNO HYES
  have HR := Lib.hid hR
  obtain ⟨n, hnn⟩ : ∃ n, n = l.length := ⟨_, rfl⟩
  have HNN := Lib.hid hnn
  rw [← hnn] at hn ⊢
  clear hl hnn hR hN hE
  go_enter Tryz.func70, Tryz.ntmps70
  go_wp2
  go_loopw [4, 9] (fun s i wr => ∃ (k m : Nat), k ≤ n ∧ i = .int .i64 k ∧ s = .int .i64 m ∧ m ≤ 1000 ∧ locGo m (l.drop k) = R ∧ Below w.heap.size w wr) (fun _ i _ => n - (intOf i).toNat)
  case atStart => exact ⟨0, 0, Nat.zero_le _, rfl, rfl, by omega, HR.out.symm, Below.refl _ _⟩
  case round =>
    obtain ⟨k, m, hk, rfl, rfl, hm, hg, hb⟩ := hrel
    have hz1 := hb.size
    by_cases hlt : k < n
    · obtain ⟨x, hx⟩ : ∃ x, l[k]? = some x := ⟨_, List.getElem?_eq_getElem (by rw [← HNN.out]; exact hlt)⟩
      obtain ⟨b, off, rfl, hbl, c0, c1⟩ := (HL.out.below hb) k x hx
      rw [lo_drop hx] at hg
      unfold locGo at hg
      have HBA := Lib.hid (hb.alloc hz1 (.cells #[.int .u32 x.n.toNat, .int .u8 x.t.toNat] 105))
      have hxn := x.n.toNat_lt
      obtain ⟨v, hv⟩ : ∃ v, v = x.n.toNat := ⟨_, rfl⟩
      rw [← hv] at hg c0 hxn HBA
      have w0 : IntKind.i64.wrap (1000 - (m : Int)) = 1000 - (m : Int) := by rw [IntKind.wrap_i64]; omega
      have w1 : IntKind.u32.wrap (1000 - (m : Int)) = 1000 - (m : Int) := by simp [IntKind.wrap, IntKind.bits, IntKind.signed]; omega
      by_cases h1 : 1000 < m + v
      · rw [if_pos (.inr h1)] at hg
        have d1 : decide ((1000 : Int) - (m : Int) < (v : Int)) = true := decide_eq_true (by omega)
        have HG := Lib.hid (HNO.out hg.symm)
        clear h1 hv hx hb hg
        go_wp2
        go_ret2
        obtain ⟨e1, e2⟩ := HG.out
        exact ⟨ret_ints e1.symm e2.symm, HBA.out⟩
      · rw [if_neg (by omega)] at hg
        have d1 : decide ((1000 : Int) - (m : Int) < (v : Int)) = false := decide_eq_false (by omega)
        have wv : IntKind.i64.wrap (v : Int) = v := by rw [IntKind.wrap_i64]; omega
        have ws : IntKind.i64.wrap ((m : Int) + (v : Int)) = (m : Int) + (v : Int) := by rw [IntKind.wrap_i64]; omega
        have HG := Lib.hid hg
        clear hv hx hb hg
        go_wp2
        go_roundw
        case rel => exact ⟨k + 1, m + v, by omega, by go_num, by rw [Int.natCast_add], by omega, HG.out, HBA.out⟩
        case measure => simp [intOf]; omega
    · have hkn : k = l.length := by rw [← HNN.out]; omega
      rw [hkn, List.drop_length] at hg
      have HG := Lib.hid (HYES.out m (show R = (m : Int) from hg.symm))
      have HB := Lib.hid hb
      clear hg hkn hb
      go_wp2
      go_ret2
      obtain ⟨e1, e2⟩ := HG.out
      exact ⟨ret_ints e1.symm e2.symm, HB.out⟩
set_option maxHeartbeats 4000000 in
theorem bright_any {w : World} {x : Bd} {L : Option Addr} {l : Nat} {B : Option Addr} {c : Nat} (hT : Tabs w) (hl : Los w L x.ls) (hi : Ins w B x.b) (hn : x.ls.length ≤ 10000) (hb : x.b.length ≤ 20000) :
    Calls Tryz.prog 35 #[bdV x L l B c] w (IntPost (bshZ x) w) := by
  have h0 := bxBd_start w x L l B c
  have H0 := Lib.hid h0
  have hl1 := hl.below (below_box w (.cells (bdC x L l B c) 70))
  have HL := Lib.hid hl
  have HLo := Lib.hid (cnt_any (c := l) hl1 (by omega))
  have HS := Lib.hid (fun W (h : Below w.heap.size w W) => shape_any (c := c) (hT.below h) (hi.below h) hb)
  have HV := Lib.hid (fun W (t : UInt8) => value_any (t.toNat : Int) W)
  obtain ⟨c0, c1⟩ := h0.2
  obtain ⟨R, hR⟩ : ∃ R, R = bshZ x := ⟨_, rfl⟩
  have d10 : decide ((10000 : Int) < (x.ls.length : Int)) = false := decide_eq_false (by omega)
  rw [← hR]
  clear hT hl hi hl1 h0
  unfold bshZ at hR
  by_cases hz : locGo 0 x.ls < 0
  · rw [if_pos hz] at hR
    have e := locGo_ge _ _ hz
    rw [(cnt_no e).1, (cnt_no e).2] at HLo
    subst hR
    clear hz e
    go_enter Tryz.func35, Tryz.ntmps35
    go_wp2_with (go_at_call 70; go_must ((with_reducible refine HLo.out.mono ?_); rintro e w1 ⟨rfl, hb⟩; have H1 := Lib.hid (bxBd_on H0.out hb); clear hb))
    go_ret
    exact ⟨rfl, bxBd_bel H1.out⟩
  · rw [if_neg hz] at hR
    obtain ⟨q, hq⟩ : ∃ q : Nat, locGo 0 x.ls = (q : Int) := ⟨(locGo 0 x.ls).toNat, by omega⟩
    rw [(cnt_yes hq).1, (cnt_yes hq).2] at HLo
    have HR := Lib.hid hR
    clear hR hz hq
    go_enter Tryz.func35, Tryz.ntmps35
    go_wp2_with (go_at_call 70; go_must ((with_reducible refine HLo.out.mono ?_); rintro e w1 ⟨rfl, hb⟩; have H1 := Lib.hid (bxBd_on H0.out hb); obtain ⟨i0, i1⟩ := H1.out.2; clear hb c0 c1))
    go_loopw [24] (fun i wr => ∃ (k : Nat), k ≤ x.ls.length ∧ i = .int .i64 k ∧ tyGo (x.ls.drop k) = tyGo x.ls ∧ BxBd w w.heap.size x L l B c wr) (fun i _ => x.ls.length - (intOf i).toNat)
    case atStart => exact ⟨0, Nat.zero_le _, rfl, rfl, H1.out⟩
    case round =>
      obtain ⟨k, hk, rfl, hg, hbx⟩ := hrel
      have hbel := bxBd_bel hbx
      have HB := Lib.hid hbx
      obtain ⟨j0, j1⟩ := hbx.2
      by_cases hlt : k < x.ls.length
      · obtain ⟨y, hy⟩ : ∃ y, x.ls[k]? = some y := ⟨_, List.getElem?_eq_getElem hlt⟩
        obtain ⟨b, off, rfl, hbl, k0, k1⟩ := (HL.out.below hbel) k y hy
        rw [ty_drop hy] at hg
        have HBA := Lib.hid (bxBd_on hbx (below_box wr (.cells #[.int .u32 y.n.toNat, .int .u8 y.t.toNat] 105)))
        have HVy := Lib.hid (fun W => HV.out W y.t)
        obtain ⟨v, hv⟩ : ∃ v, v = valueZ y.t.toNat := ⟨_, rfl⟩
        rw [← hv] at hg HVy
        clear hy hv hbel hbx
        by_cases hz : v = 0
        · subst hz
          have HG := Lib.hid (show tyGo (x.ls.drop (k + 1)) = tyGo x.ls by simpa using hg)
          clear hg
          go_wp2_with (go_at_call 71; go_must ((with_reducible refine (HVy.out _).mono ?_); rintro e w' ⟨rfl, rfl⟩))
          go_roundw
          case rel => exact ⟨k + 1, by omega, by go_num, HG.out, HBA.out⟩
          case measure => simp [intOf]; omega
        · have dz : (v != 0) = true := zb_of (by simpa using hz)
          rw [if_pos hz] at hg
          have HG := Lib.hid (show R = v by rw [HR.out, ← hg, if_pos hz])
          clear hg hz
          go_wp2_with (go_at_call 71; go_must ((with_reducible refine (HVy.out _).mono ?_); rintro e w' ⟨rfl, rfl⟩))
          go_ret
          exact ⟨ret_i HG.out.symm, bxBd_bel HBA.out⟩
      · have hkn : k = x.ls.length := by omega
        rw [hkn, List.drop_length] at hg
        have HG := Lib.hid (show R = shapeZ x.b by rw [HR.out, ← hg]; rfl)
        have HSW := Lib.hid (HS.out _ hbel)
        clear hg hkn hbel hbx
        go_wp2_with (go_at_call 72; go_must ((with_reducible refine HSW.out.mono ?_); rintro e w2 ⟨rfl, hb⟩; have H2 := Lib.hid (bxBd_on HB.out hb); clear hb))
        go_ret
        exact ⟨ret_i HG.out.symm, bxBd_bel H2.out⟩
end Go.Proofs.YtebgmfjgapmpfaaGreatDoor
