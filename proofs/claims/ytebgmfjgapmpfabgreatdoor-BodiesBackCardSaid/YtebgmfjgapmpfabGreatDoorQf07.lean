/- The reference's Shape, Right, Types, Same of bodies. -/
import Derived.Test.YtebgmfjgapmpfabGreatDoorQf03
import Derived.Test.YtebgmfjgapmpfabGreatDoorQf06
import Derived.Deep.DeepMust
import Derived.Test.YtebgmfjgapmpfabGreatDoorQf02
namespace Go.Proofs.YtebgmfjgapmpfabGreatDoor
open Go.RowKit
set_option linter.unusedVariables false
set_option maxRecDepth 100000

/-- The first group's type that may not be. -/
def tyGo : List Lo → Int
  | [] => 0
  | x :: r => if valueZ x.t.toNat ≠ 0 then valueZ x.t.toNat else tyGo r
theorem ty_drop {l : List Lo} {k : Nat} {x : Lo} (h : l[k]? = some x) : tyGo (l.drop k) = if valueZ x.t.toNat ≠ 0 then valueZ x.t.toNat else tyGo (l.drop (k + 1)) := by
  rw [lo_drop h]
  rfl
/-- May it be, but for its instructions? May it be? -/
def bshZ (x : Bd) : Int := if locGo 0 x.ls < 0 then 23 else if tyGo x.ls ≠ 0 then tyGo x.ls else shapeZ x.b
def brZ (x : Bd) : Int := if bshZ x ≠ 0 then bshZ x else errZ x.b
set_option maxHeartbeats 4000000 in
theorem rbshape_any {w : World} {x : Bd} {L : Option Addr} {l : Nat} {B : Option Addr} {c : Nat} (hl : Los w L x.ls) (hi : Ins w B x.b) (hn : (x.ls.length : Int) ≤ 9223372036854775807) (hb : x.b.length ≤ 20000) :
    Calls Tryz.prog 30 #[bdV x L l B c] w (IntPost (bshZ x) w) := by
  have h0 := bxBd_start w x L l B c
  have H0 := Lib.hid h0
  have hl1 := hl.below (below_box w (.cells (bdC x L l B c) 28))
  have HL := Lib.hid hl1
  have HLo := Lib.hid (rloc_any (c := l) hl1 hn)
  have HS := Lib.hid (fun W (h : Below w.heap.size w W) => refShape_any (c := c) (hi.below h) hb)
  have HV := Lib.hid (fun W (t : UInt8) => refValue_any (t.toNat : Int) W)
  obtain ⟨c0, c1⟩ := h0.2
  obtain ⟨R, hR⟩ : ∃ R, R = bshZ x := ⟨_, rfl⟩
  rw [← hR]
  clear hl hi hl1 h0
  unfold bshZ at hR
  by_cases hz : locGo 0 x.ls < 0
  · rw [if_pos hz] at hR
    have e := locGo_ge _ _ hz
    rw [e] at HLo
    subst hR
    clear hz e
    go_enter Tryz.func30, Tryz.ntmps30
    go_wp2_with (go_at_call 57; go_must ((with_reducible refine HLo.out.mono ?_); rintro e w' ⟨rfl, rfl⟩))
    go_ret
    exact ⟨rfl, bxBd_bel H0.out⟩
  · rw [if_neg hz] at hR
    have d0 : decide (locGo 0 x.ls < 0) = false := decide_eq_false hz
    obtain ⟨z, hzz⟩ : ∃ z, z = locGo 0 x.ls := ⟨_, rfl⟩
    rw [← hzz] at HLo d0
    clear hz hzz
    have HR := Lib.hid hR
    clear hR
    go_enter Tryz.func30, Tryz.ntmps30
    go_wp2_with (go_at_call 57; go_must ((with_reducible refine HLo.out.mono ?_); rintro e w' ⟨rfl, rfl⟩))
    generalize w.alloc (.cells (bdC x L l B c) 28) = W at *
    go_loopw [3] (fun i wr => ∃ (k : Nat), k ≤ x.ls.length ∧ i = .int .i64 k ∧ tyGo (x.ls.drop k) = tyGo x.ls ∧ wr = W) (fun i _ => x.ls.length - (intOf i).toNat)
    case atStart => exact ⟨0, Nat.zero_le _, rfl, rfl, rfl⟩
    case round =>
      obtain ⟨k, hk, rfl, hg, rfl⟩ := hrel
      by_cases hlt : k < x.ls.length
      · obtain ⟨y, hy⟩ : ∃ y, x.ls[k]? = some y := ⟨_, List.getElem?_eq_getElem hlt⟩
        obtain ⟨b, off, rfl, hbl, k0, k1⟩ := HL.out k y hy
        rw [ty_drop hy] at hg
        have wt : IntKind.i64.wrap (y.t.toNat : Int) = y.t.toNat := by rw [IntKind.wrap_i64]; have := u8_le y.t; omega
        have HVy := Lib.hid (fun W => HV.out W y.t)
        obtain ⟨v, hv⟩ : ∃ v, v = valueZ y.t.toNat := ⟨_, rfl⟩
        rw [← hv] at hg HVy
        clear hy hv
        by_cases hz : v = 0
        · subst hz
          have hg2 : tyGo (x.ls.drop (k + 1)) = tyGo x.ls := by simpa using hg
          have HG := Lib.hid hg2
          clear hg hg2
          go_wp2_with (go_at_call 58; go_must ((with_reducible refine (HVy.out _).mono ?_); rintro e w' ⟨rfl, rfl⟩))
          go_roundw
          case rel => exact ⟨k + 1, by omega, by go_num, HG.out, trivial⟩
          case measure => simp [intOf]; omega
        · have dz : (v != 0) = true := zb_of (by simpa using hz)
          rw [if_pos hz] at hg
          have HG := Lib.hid (show R = v by rw [HR.out, ← hg, if_pos hz])
          clear hg hz
          go_wp2_with (go_at_call 58; go_must ((with_reducible refine (HVy.out _).mono ?_); rintro e w' ⟨rfl, rfl⟩))
          go_ret
          have e := HG.out
          subst e
          exact ⟨rfl, bxBd_bel H0.out⟩
      · have hkn : k = x.ls.length := by omega
        rw [hkn, List.drop_length] at hg
        have HG := Lib.hid (show R = shapeZ x.b by rw [HR.out, ← hg]; rfl)
        have HSW := Lib.hid (HS.out _ (bxBd_bel H0.out))
        clear hg hkn
        go_wp2_with (go_at_call 59; go_must ((with_reducible refine HSW.out.mono ?_); rintro e w2 ⟨rfl, hb⟩; have H2 := Lib.hid (bxBd_on H0.out hb); clear hb))
        go_ret
        have e := HG.out
        subst e
        exact ⟨rfl, bxBd_bel H2.out⟩
set_option maxHeartbeats 4000000 in
theorem rbright_any {w : World} {x : Bd} {L : Option Addr} {l : Nat} {B : Option Addr} {c : Nat} (hl : Los w L x.ls) (hi : Ins w B x.b) (hn : (x.ls.length : Int) ≤ 9223372036854775807) (hb : x.b.length ≤ 20000) (hok : ∀ i ∈ x.b, i.Ok ∧ (i.l.length : Int) ≤ 9223372036854775807) :
    Calls Tryz.prog 9 #[bdV x L l B c] w (IntPost (brZ x) w) := by
  have h0 := bxBd_start w x L l B c
  have H0 := Lib.hid h0
  have HS := Lib.hid (rbshape_any (l := l) (c := c) (hl.below h0.1.2) (hi.below h0.1.2) hn hb)
  have HI := Lib.hid hi
  have HOK := Lib.hid hok
  obtain ⟨R, hR⟩ : ∃ R, R = brZ x := ⟨_, rfl⟩
  rw [← hR]
  clear hl hi h0 hok
  unfold brZ at hR
  obtain ⟨z, hzz⟩ : ∃ z, z = bshZ x := ⟨_, rfl⟩
  rw [← hzz] at HS hR
  clear hzz
  by_cases hz : z = 0
  · subst hz
    have HR := Lib.hid (show R = errZ x.b by simpa using hR)
    clear hR
    go_enter Tryz.func9, Tryz.ntmps9
    go_wp2_with (go_at_call 30; go_must ((with_reducible refine HS.out.mono ?_); rintro e w1 ⟨rfl, hb⟩; have H1 := Lib.hid (bxBd_on H0.out hb); clear hb))
    go_loopw [4] (fun i wr => ∃ (k : Nat), k ≤ x.b.length ∧ i = .int .i64 k ∧ errZ (x.b.drop k) = errZ x.b ∧ BxBd w w.heap.size x L l B c wr) (fun i _ => x.b.length - (intOf i).toNat)
    case atStart => exact ⟨0, Nat.zero_le _, rfl, rfl, H1.out⟩
    case round =>
      obtain ⟨k, hk, rfl, hg, hbx⟩ := hrel
      have hbx' := hbx
      obtain ⟨⟨_, hbel⟩, c0, c1⟩ := hbx'
      have HB := Lib.hid hbx
      by_cases hlt : k < x.b.length
      · obtain ⟨i, hx⟩ : ∃ i, x.b[k]? = some i := ⟨_, List.getElem?_eq_getElem hlt⟩
        obtain ⟨b, off, B1, d, rfl, hbl, ⟨k0, k1, k2, k3⟩, _⟩ := (HI.out.below hbel) k i hx
        have hio := HOK.out i (List.mem_of_getElem? hx)
        have HRR := Lib.hid (fun W => refRight_any i B1 d W hio.1 hio.2)
        rw [errZ_drop hx] at hg
        obtain ⟨v, hv⟩ : ∃ v, v = rightZ i := ⟨_, rfl⟩
        rw [← hv] at hg HRR
        clear hx hv hbx hio hbel
        by_cases hz : v = 0
        · subst hz
          have HG := Lib.hid (show errZ (x.b.drop (k + 1)) = errZ x.b by simpa using hg)
          clear hg
          go_wp2_with (go_at_call 31; go_must ((with_reducible refine (HRR.out _).mono ?_); rintro e w2 ⟨rfl, hb⟩; have H2 := Lib.hid (bxBd_on HB.out hb); clear hb))
          go_roundw
          case rel => exact ⟨k + 1, by omega, by go_num, HG.out, H2.out⟩
          case measure => simp [intOf]; omega
        · have dz : (v != 0) = true := zb_of (by simpa using hz)
          rw [if_pos hz] at hg
          have HG := Lib.hid (show R = v by rw [HR.out, ← hg])
          clear hg hz
          go_wp2_with (go_at_call 31; go_must ((with_reducible refine (HRR.out _).mono ?_); rintro e w2 ⟨rfl, hb⟩; have H2 := Lib.hid (bxBd_on HB.out hb); clear hb))
          go_ret
          have e := HG.out
          subst e
          exact ⟨rfl, bxBd_bel H2.out⟩
      · have hkn : k = x.b.length := by omega
        rw [hkn, List.drop_length] at hg
        have HG := Lib.hid (show R = 0 by rw [HR.out, ← hg]; rfl)
        clear hg hkn hbx hbel
        go_wp2
        go_ret
        have e := HG.out
        subst e
        exact ⟨rfl, bxBd_bel HB.out⟩
  · have dz : (z != 0) = true := zb_of (by simpa using hz)
    rw [if_pos hz] at hR
    subst hR
    clear hz
    go_enter Tryz.func9, Tryz.ntmps9
    go_wp2_with (go_at_call 30; go_must ((with_reducible refine HS.out.mono ?_); rintro e w1 ⟨rfl, hb⟩; have H1 := Lib.hid (bxBd_on H0.out hb); clear hb))
    go_ret
    exact ⟨rfl, bxBd_bel H1.out⟩
/-- Two groups that are alike. -/
theorem neq_lo (x : Lo) (W : World) : (binOp BinOp.neq 71 (.agg #[.int .u32 x.n.toNat, .int .u8 x.t.toNat]) (.agg #[.int .u32 x.n.toNat, .int .u8 x.t.toNat])).run Tryz.prog W = .ok (.bool false) W := by
  go_simp
set_option maxHeartbeats 2000000 in
/-- Same, of two that are alike. -/
theorem rsame_bd {w : World} {x : Bd} {L M : Option Addr} {l m : Nat} {B D : Option Addr} {c d : Nat} (hL : Los w L x.ls) (hM : Los w M x.ls) (hB : Ins w B x.b) (hD : Ins w D x.b) (hn : (x.ls.length : Int) ≤ 9223372036854775807) (hb : x.b.length ≤ 1000) (hll : ∀ i ∈ x.b, i.l.length ≤ 100) :
    Calls Tryz.prog 16 #[bdV x L l B c, bdV x M m D d] w (BoolPost true w) := by
  have H1 := Whole.made w 28 (bdC x L l B c)
  have H2 := made_2 w (.cells (bdC x L l B c) 28) 28 (bdC x M m D d)
  have hb2 : Below w.heap.size w ((w.alloc (.cells (bdC x L l B c) 28)).alloc (.cells (bdC x M m D d) 28)) := (below_box w _).alloc (by simp) _
  have HS := Lib.hid (sameAll_any (c := c) (d := d) (hB.below hb2) (hD.below hb2) hb hll)
  have HB := Lib.hid hb2
  have HX := Lib.hid (H1.alloc (.cells (bdC x M m D d) 28))
  have HY := Lib.hid H2
  have HL := Lib.hid (hL.below hb2)
  have HM := Lib.hid (hM.below hb2)
  have dn : ((x.ls.length : Int) != x.ls.length) = false := by simp
  clear hb2 H1 H2 hL hM hB hD hll
  go_enter Tryz.func16, Tryz.ntmps16
  go_wp2_with (go_at_call 39; go_must ((with_reducible refine HS.out.mono ?_); rintro e w2 ⟨rfl, hb⟩; have HB2 := Lib.hid hb; clear hb))
  have HL2 := Lib.hid (HL.out.below HB2.out)
  have HM2 := Lib.hid (HM.out.below HB2.out)
  have x0 := (HX.out.below HB2.out).cell 0
  have y0 := (HY.out.below HB2.out).cell 0
  simp only [List.getElem?_toArray, List.getElem?_cons_zero] at x0 y0
  go_loopw [5] (fun i wr => ∃ j q : Nat, j ≤ x.ls.length ∧ i = .int .i64 j ∧ wr = w2.drewN q) (fun i _ => x.ls.length - (intOf i).toNat)
  case atStart => exact ⟨0, 0, Nat.zero_le _, rfl, rfl⟩
  case round =>
    obtain ⟨j, q, hj, rfl, rfl⟩ := hrel
    by_cases hlt : j < x.ls.length
    · obtain ⟨v, hv⟩ : ∃ v, x.ls[j]? = some v := ⟨_, List.getElem?_eq_getElem hlt⟩
      obtain ⟨b1, o1, rfl, _, g1, g1'⟩ := HL2.out j v hv
      obtain ⟨b2, o2, rfl, _, g2, g2'⟩ := HM2.out j v hv
      have hc := neq_lo v
      clear hv
      go_wp2_with fail
      go_region
      go_wp2
      go_roundw
      case measure => simp [intOf]; omega
      case rel => exact ⟨j + 1, q + 1, by omega, by go_num, rfl⟩
    · obtain rfl : j = x.ls.length := by omega
      go_wp2
      go_ret
      exact ⟨rfl, below_drewN (HB.out.trans (HB2.out.mono HB.out.size)) _⟩
end Go.Proofs.YtebgmfjgapmpfabGreatDoor

/- bodies.Count, bodies.Right. -/
namespace Go.Proofs.YtebgmfjgapmpfabGreatDoor
open Go.RowKit
set_option linter.unusedVariables false
set_option maxRecDepth 100000

/-- How many; the error. -/
def cntN (l : List Lo) : Int := if locGo 0 l < 0 then 0 else locGo 0 l
def cntE (l : List Lo) : Int := if locGo 0 l < 0 then 23 else 0
theorem cnt_no {l : List Lo} (h : locGo 0 l = -1) : cntN l = 0 ∧ cntE l = 23 := by unfold cntN cntE; rw [h]; decide
theorem cnt_yes {l : List Lo} {m : Nat} (h : locGo 0 l = (m : Int)) : cntN l = m ∧ cntE l = 0 := by
  unfold cntN cntE
  rw [h, if_neg (by omega), if_neg (by omega)]
  exact ⟨rfl, rfl⟩
theorem ret_i {a c : Int} (h : a = c) : Ending.returned (.int .i64 a) = .returned (.int .i64 c) := by rw [h]
theorem ret_ints {a b c d : Int} (h : a = c) (h2 : b = d) : Ending.returned (.tuple #[.int .i64 a, .int .i64 b]) = .returned (.tuple #[.int .i64 c, .int .i64 d]) := by rw [h, h2]

set_option maxHeartbeats 4000000 in
theorem cnt_any {w : World} {A : Option Addr} {c : Nat} {l : List Lo} (hl : Los w A l) (hn : (l.length : Int) ≤ 9223372036854775807) :
    Calls Tryz.prog 74 #[.slice A l.length c] w fun e w' => e = .returned (.tuple #[.int .i64 (cntN l), .int .i64 (cntE l)]) ∧ Below w.heap.size w w' := by
  have HL := Lib.hid hl
  obtain ⟨N, hN⟩ : ∃ N, N = cntN l := ⟨_, rfl⟩
  obtain ⟨E, hE⟩ : ∃ E, E = cntE l := ⟨_, rfl⟩
  have HNO := Lib.hid (fun h : locGo 0 l = -1 => show N = 0 ∧ E = 23 by rw [hN, hE]; exact cnt_no h)
  have HYES := Lib.hid (fun (m : Nat) (h : locGo 0 l = (m : Int)) => show N = m ∧ E = 0 by rw [hN, hE]; exact cnt_yes h)
  rw [← hN, ← hE]
  obtain ⟨R, hR⟩ : ∃ R, R = locGo 0 l := ⟨_, rfl⟩
  rw [← hR] at HNO HYES
  have HR := Lib.hid hR
  obtain ⟨n, hnn⟩ : ∃ n, n = l.length := ⟨_, rfl⟩
  have HNN := Lib.hid hnn
  rw [← hnn] at hn ⊢
  clear hl hnn hR hN hE
  go_enter Tryz.func74, Tryz.ntmps74
  go_wp2
  go_loopw [4, 9] (fun s i wr => ∃ (k m : Nat), k ≤ n ∧ i = .int .i64 k ∧ s = .int .i64 m ∧ m ≤ 1000 ∧ locGo m (l.drop k) = R ∧ Below w.heap.size w wr) (fun _ i _ => n - (intOf i).toNat)
  case atStart => exact ⟨0, 0, Nat.zero_le _, rfl, rfl, by omega, HR.out.symm, Below.refl _ _⟩
  case round =>
    obtain ⟨k, m, hk, rfl, rfl, hm, hg, hb⟩ := hrel
    have hz1 := hb.size
    by_cases hlt : k < n
    · obtain ⟨x, hx⟩ : ∃ x, l[k]? = some x := ⟨_, List.getElem?_eq_getElem (by rw [← HNN.out]; exact hlt)⟩
      obtain ⟨b, off, rfl, hbl, c0, c1⟩ := (HL.out.below hb) k x hx
      rw [lo_drop hx] at hg
      unfold locGo at hg
      have HBA := Lib.hid (hb.alloc hz1 (.cells #[.int .u32 x.n.toNat, .int .u8 x.t.toNat] 71))
      have hxn := x.n.toNat_lt
      obtain ⟨v, hv⟩ : ∃ v, v = x.n.toNat := ⟨_, rfl⟩
      rw [← hv] at hg c0 hxn HBA
      have w0 : IntKind.i64.wrap (1000 - (m : Int)) = 1000 - (m : Int) := by rw [IntKind.wrap_i64]; omega
      have w1 : IntKind.u32.wrap (1000 - (m : Int)) = 1000 - (m : Int) := by simp [IntKind.wrap, IntKind.bits, IntKind.signed]; omega
      by_cases h1 : 1000 < m + v
      · rw [if_pos (.inr h1)] at hg
        have d1 : decide ((1000 : Int) - (m : Int) < (v : Int)) = true := decide_eq_true (by omega)
        have HG := Lib.hid (HNO.out hg.symm)
        clear h1 hv hx hb hg
        go_wp2
        go_ret2
        obtain ⟨e1, e2⟩ := HG.out
        exact ⟨ret_ints e1.symm e2.symm, HBA.out⟩
      · rw [if_neg (by omega)] at hg
        have d1 : decide ((1000 : Int) - (m : Int) < (v : Int)) = false := decide_eq_false (by omega)
        have wv : IntKind.i64.wrap (v : Int) = v := by rw [IntKind.wrap_i64]; omega
        have ws : IntKind.i64.wrap ((m : Int) + (v : Int)) = (m : Int) + (v : Int) := by rw [IntKind.wrap_i64]; omega
        have HG := Lib.hid hg
        clear hv hx hb hg
        go_wp2
        go_roundw
        case rel => exact ⟨k + 1, m + v, by omega, by go_num, by rw [Int.natCast_add], by omega, HG.out, HBA.out⟩
        case measure => simp [intOf]; omega
    · have hkn : k = l.length := by rw [← HNN.out]; omega
      rw [hkn, List.drop_length] at hg
      have HG := Lib.hid (HYES.out m (show R = (m : Int) from hg.symm))
      have HB := Lib.hid hb
      clear hg hkn hb
      go_wp2
      go_ret2
      obtain ⟨e1, e2⟩ := HG.out
      exact ⟨ret_ints e1.symm e2.symm, HB.out⟩
set_option maxHeartbeats 4000000 in
theorem bright_any {w : World} {x : Bd} {L : Option Addr} {l : Nat} {B : Option Addr} {c : Nat} (hT : Tabs w) (hl : Los w L x.ls) (hi : Ins w B x.b) (hn : x.ls.length ≤ 10000) (hb : x.b.length ≤ 20000) :
    Calls Tryz.prog 51 #[bdV x L l B c] w (IntPost (bshZ x) w) := by
  have h0 := bxBd_start w x L l B c
  have H0 := Lib.hid h0
  have hl1 := hl.below (below_box w (.cells (bdC x L l B c) 28))
  have HL := Lib.hid hl
  have HLo := Lib.hid (cnt_any (c := l) hl1 (by omega))
  have HS := Lib.hid (fun W (h : Below w.heap.size w W) => shape_any (c := c) (hT.below h) (hi.below h) hb)
  have HV := Lib.hid (fun W (t : UInt8) => value_any (t.toNat : Int) W)
  obtain ⟨c0, c1⟩ := h0.2
  obtain ⟨R, hR⟩ : ∃ R, R = bshZ x := ⟨_, rfl⟩
  have d10 : decide ((10000 : Int) < (x.ls.length : Int)) = false := decide_eq_false (by omega)
  rw [← hR]
  clear hT hl hi hl1 h0
  unfold bshZ at hR
  by_cases hz : locGo 0 x.ls < 0
  · rw [if_pos hz] at hR
    have e := locGo_ge _ _ hz
    rw [(cnt_no e).1, (cnt_no e).2] at HLo
    subst hR
    clear hz e
    go_enter Tryz.func51, Tryz.ntmps51
    go_wp2_with (go_at_call 74; go_must ((with_reducible refine HLo.out.mono ?_); rintro e w1 ⟨rfl, hb⟩; have H1 := Lib.hid (bxBd_on H0.out hb); clear hb))
    go_ret
    exact ⟨rfl, bxBd_bel H1.out⟩
  · rw [if_neg hz] at hR
    obtain ⟨q, hq⟩ : ∃ q : Nat, locGo 0 x.ls = (q : Int) := ⟨(locGo 0 x.ls).toNat, by omega⟩
    rw [(cnt_yes hq).1, (cnt_yes hq).2] at HLo
    have HR := Lib.hid hR
    clear hR hz hq
    go_enter Tryz.func51, Tryz.ntmps51
    go_wp2_with (go_at_call 74; go_must ((with_reducible refine HLo.out.mono ?_); rintro e w1 ⟨rfl, hb⟩; have H1 := Lib.hid (bxBd_on H0.out hb); obtain ⟨i0, i1⟩ := H1.out.2; clear hb c0 c1))
    go_loopw [24] (fun i wr => ∃ (k : Nat), k ≤ x.ls.length ∧ i = .int .i64 k ∧ tyGo (x.ls.drop k) = tyGo x.ls ∧ BxBd w w.heap.size x L l B c wr) (fun i _ => x.ls.length - (intOf i).toNat)
    case atStart => exact ⟨0, Nat.zero_le _, rfl, rfl, H1.out⟩
    case round =>
      obtain ⟨k, hk, rfl, hg, hbx⟩ := hrel
      have hbel := bxBd_bel hbx
      have HB := Lib.hid hbx
      obtain ⟨j0, j1⟩ := hbx.2
      by_cases hlt : k < x.ls.length
      · obtain ⟨y, hy⟩ : ∃ y, x.ls[k]? = some y := ⟨_, List.getElem?_eq_getElem hlt⟩
        obtain ⟨b, off, rfl, hbl, k0, k1⟩ := (HL.out.below hbel) k y hy
        rw [ty_drop hy] at hg
        have HBA := Lib.hid (bxBd_on hbx (below_box wr (.cells #[.int .u32 y.n.toNat, .int .u8 y.t.toNat] 71)))
        have HVy := Lib.hid (fun W => HV.out W y.t)
        obtain ⟨v, hv⟩ : ∃ v, v = valueZ y.t.toNat := ⟨_, rfl⟩
        rw [← hv] at hg HVy
        clear hy hv hbel hbx
        by_cases hz : v = 0
        · subst hz
          have HG := Lib.hid (show tyGo (x.ls.drop (k + 1)) = tyGo x.ls by simpa using hg)
          clear hg
          go_wp2_with (go_at_call 90; go_must ((with_reducible refine (HVy.out _).mono ?_); rintro e w' ⟨rfl, rfl⟩))
          go_roundw
          case rel => exact ⟨k + 1, by omega, by go_num, HG.out, HBA.out⟩
          case measure => simp [intOf]; omega
        · have dz : (v != 0) = true := zb_of (by simpa using hz)
          rw [if_pos hz] at hg
          have HG := Lib.hid (show R = v by rw [HR.out, ← hg, if_pos hz])
          clear hg hz
          go_wp2_with (go_at_call 90; go_must ((with_reducible refine (HVy.out _).mono ?_); rintro e w' ⟨rfl, rfl⟩))
          go_ret
          exact ⟨ret_i HG.out.symm, bxBd_bel HBA.out⟩
      · have hkn : k = x.ls.length := by omega
        rw [hkn, List.drop_length] at hg
        have HG := Lib.hid (show R = shapeZ x.b by rw [HR.out, ← hg]; rfl)
        have HSW := Lib.hid (HS.out _ hbel)
        clear hg hkn hbel hbx
        go_wp2_with (go_at_call 91; go_must ((with_reducible refine HSW.out.mono ?_); rintro e w2 ⟨rfl, hb⟩; have H2 := Lib.hid (bxBd_on HB.out hb); clear hb))
        go_ret
        exact ⟨ret_i HG.out.symm, bxBd_bel H2.out⟩
end Go.Proofs.YtebgmfjgapmpfabGreatDoor

/- The reference's num, signed, Put. (By gen/genRefPut.py.) -/
namespace Go.Proofs.YtebgmfjgapmpfabGreatDoor
open Go.RowKit
set_option linter.unusedVariables false
set_option maxRecDepth 100000

def StrPost (l : List UInt8) (w : World) (e : Ending) (w' : World) : Prop := e = .returned (.string (S l)) ∧ Below w.heap.size w w'
theorem num_any (x : Int) (w : World) (h0 : 0 ≤ x) (h1 : x ≤ 18446744073709551615) : Calls Tryz.prog 62 #[.int .u64 x] w (StrPost (lebL x) w) := by
  have U := Lib.hid (fun W => refUintL x W h0 h1)
  have hl := (lebL_len x h1).1
  generalize lebL x = l at *
  go_enter Tryz.func62, Tryz.ntmps62
  go_wp2_with (go_at_call 56; go_must ((with_reducible refine (U.out _).mono ?_); intro e w1 h; obtain ⟨A, k, rfl, hl1, hb⟩ := h; have hs := str_lies' hl1 hl k; have HB := Lib.hid hb; clear hb hl1))
  go_ret
  exact ⟨rfl, HB.out⟩
theorem conv1 {W : World} {op : UInt8} {H : Nat} (hH : W.heap.size = H) : (convert 32 9 (.slice (some ⟨H, 0, none⟩) 1 1)).run Tryz.prog (W.alloc (.cells #[.int .u8 op.toNat] 5)) = .ok (.string (S [op])) (W.alloc (.cells #[.int .u8 op.toNat] 5)) := by
  obtain ⟨A, c, e, h⟩ := (Row.made W [op] 0 H hH (Nat.zero_le _) (by simp)).str
  injection e with e1 _ e2
  subst e1; subst e2
  exact h 9 Tryz.underlying9
theorem conv2 {W : World} {op H : Nat} (hH : W.heap.size = H) (x : Int) (h0 : 0 ≤ x) (h1 : x ≤ 255) : (convert 32 9 (.slice (some ⟨H, 0, none⟩) 1 1)).run Tryz.prog (W.alloc (.cells #[.int .u8 x] 5)) = .ok (.string (S [UInt8.ofNat x.toNat])) (W.alloc (.cells #[.int .u8 x] 5)) := by
  have := conv1 (op := UInt8.ofNat x.toNat) hH
  rwa [u8_of h0 h1] at this

theorem signed32_any (x : Int) (w : World) (h0 : 0 ≤ x) (h1 : x ≤ 18446744073709551615) : Calls Tryz.prog 63 #[.int .u64 x, .int .u64 32] w (StrPost (sebL (s32 x)) w) := by
  have hs : -9223372036854775808 ≤ s32 x ∧ s32 x ≤ 9223372036854775807 := by unfold s32; omega
  have U := Lib.hid (fun W => refIntL (s32 x) W hs.1 hs.2)
  have hl := (sebL_len (s32 x) hs.1 hs.2).1
  have hz : wrap64 (IntKind.u64.wrap (x * 4294967296)) / 4294967296 = s32 x := by unfold s32 wrap64; simp only [IntKind.wrap, IntKind.bits, IntKind.signed]; simp; omega
  generalize s32 x = z at *
  generalize sebL z = l at *
  go_enter Tryz.func63, Tryz.ntmps63
  go_wp2_with (go_at_call 100; go_must ((with_reducible refine (U.out _).mono ?_); intro e w1 h; obtain ⟨A, k, rfl, hl1, hb⟩ := h; have hs2 := str_lies' hl1 hl k; have HB := Lib.hid hb; clear hb hl1))
  go_ret
  exact ⟨rfl, HB.out⟩

theorem signed64_any (x : Int) (w : World) (h0 : 0 ≤ x) (h1 : x ≤ 18446744073709551615) : Calls Tryz.prog 63 #[.int .u64 x, .int .u64 64] w (StrPost (sebL (s64 x)) w) := by
  have hs : -9223372036854775808 ≤ s64 x ∧ s64 x ≤ 9223372036854775807 := by unfold s64; omega
  have U := Lib.hid (fun W => refIntL (s64 x) W hs.1 hs.2)
  have hl := (sebL_len (s64 x) hs.1 hs.2).1
  have hz : wrap64 x = s64 x := by unfold s64 wrap64; omega
  generalize s64 x = z at *
  generalize sebL z = l at *
  go_enter Tryz.func63, Tryz.ntmps63
  go_wp2_with (go_at_call 100; go_must ((with_reducible refine (U.out _).mono ?_); intro e w1 h; obtain ⟨A, k, rfl, hl1, hb⟩ := h; have hs2 := str_lies' hl1 hl k; have HB := Lib.hid hb; clear hb hl1))
  go_ret
  exact ⟨rfl, HB.out⟩

section
variable {w W W' : World} {i : I} {A : Option Addr} {c : Nat}
theorem BoxI.on3 (h : BoxI w W i A c) {O O' : Obj} (hb : Below ((W.alloc O).alloc O').heap.size ((W.alloc O).alloc O') W') : BoxI w W' i A c := ((h.on (below_box W O)).on (below_box _ O')).on hb
theorem BoxI.two3 (h : BoxI w W i A c) (O O' : Obj) : BoxI w ((W.alloc O).alloc O') i A c := (h.on (below_box W O)).on (below_box _ O')
theorem BoxI.three (h : BoxI w W i A c) : BoxI w W i A c ∧ W.cell? ⟨w.heap.size, 1, none⟩ = some (.int .u64 i.a) ∧ W.cell? ⟨w.heap.size, 2, none⟩ = some (.int .u64 i.b) := ⟨h, h.c1, h.c2⟩
theorem held_num {K : Nat} {args : Array Value} {l : List UInt8} (hN : ∀ W, Calls Tryz.prog K args W (StrPost l W)) (h : BoxI w W i A c ∧ W.cell? ⟨w.heap.size, 1, none⟩ = some (.int .u64 i.a) ∧ W.cell? ⟨w.heap.size, 2, none⟩ = some (.int .u64 i.b)) :
    Calls Tryz.prog K args W fun e w' => e = .returned (.string (S l)) ∧ BoxI w w' i A c ∧ w'.cell? ⟨w.heap.size, 1, none⟩ = some (.int .u64 i.a) ∧ w'.cell? ⟨w.heap.size, 2, none⟩ = some (.int .u64 i.b) :=
  (hN W).mono fun _ _ ⟨h1, h2⟩ => ⟨h1, BoxI.three (h.1.on h2)⟩
end
theorem str_put {i : I} {l : List UInt8} {s : ByteArray} {w W : World} (hp : putL i = l) (hs : s = S l) (hb : Below w.heap.size w W) : StrPost (putL i) w (.returned (.string s)) W := ⟨by rw [hs, hp], hb⟩
set_option maxHeartbeats 3000000 in
theorem refPut_any (i : I) (A : Option Addr) (c : Nat) (w : World) (h : i.Ok) (hr : rightZ i = 0) (hl : Lies w w.heap.size A (cells32 i.l)) :
    Calls Tryz.prog 32 #[insV i A c] w (StrPost (putL i) w) := by
  have hn := i.n_le
  have HT := Lib.hid (immL_len h hr)
  obtain ⟨a0, a1, b0, b1, hl0⟩ := h
  have hwb : IntKind.i64.wrap (i.op.toNat : Int) = i.op.toNat := by rw [IntKind.wrap_i64]; have := i.op.toNat_lt; omega
  obtain ⟨hc0, _, h10, _, hz0⟩ := right_zero hr
  obtain ⟨hz1, hz2, hz3⟩ := nums_zero hz0 a0
  have HL0 := Lib.hid hl0
  have HB := Lib.hid (BoxI.start w i A c)
  have HL := Lib.hid hl
  obtain ⟨m, hm⟩ : ∃ m, m = immR i.n := ⟨_, rfl⟩
  obtain ⟨r, hr2⟩ : ∃ r, r = refR i.n := ⟨_, rfl⟩
  have him : (r.getD row0).imm = m := by rw [hr2, hm]; exact (imm_same hn hc0).2
  have HI : Hid (∀ W, Calls Tryz.prog 61 #[.int .i64 i.op.toNat] W (RefPost r W)) := fun W => by rw [hr2]; exact ref_any i.n W hn
  have HIM := Lib.hid (show putL i = [i.op] ++ immB m i by unfold putL immL; rw [hm]; rfl)
  rw [← hm] at hz1 hz2 hz3
  have HZ1 := Lib.hid hz1
  have HZ2 := Lib.hid hz2
  have HZ3 := Lib.hid hz3
  have NA := Lib.hid (fun W => num_any i.a W a0 a1)
  have NB := Lib.hid (fun W => num_any i.b W b0 b1)
  have NL := Lib.hid (fun W => num_any (i.l.length : Int) W (by omega) (by omega))
  have ka := lebL_len i.a (by omega)
  have kb := lebL_len i.b (by omega)
  have kl := lebL_len (i.l.length : Int) (by omega)
  have wl : IntKind.u64.wrap (i.l.length : Int) = i.l.length := by simp [IntKind.wrap, IntKind.bits, IntKind.signed]; omega
  obtain ⟨xa, hxa⟩ : ∃ x, x = lebL i.a := ⟨_, rfl⟩
  obtain ⟨xb, hxb⟩ : ∃ x, x = lebL i.b := ⟨_, rfl⟩
  obtain ⟨xl, hxl⟩ : ∃ x, x = lebL (i.l.length : Int) := ⟨_, rfl⟩
  rw [← hxa] at NA ka
  rw [← hxb] at NB kb
  rw [← hxl] at NL kl
  have sa := S_size xa
  have sb := S_size xb
  have sl := S_size xl
  obtain ⟨o, ho⟩ : ∃ o, o = [i.op] := ⟨_, rfl⟩
  have so : (S o).size = 1 := by rw [S_size, ho]; rfl
  have HC1 := Lib.hid (fun (W : World) (H : Nat) (hH : W.heap.size = H) => (by rw [ho]; exact conv1 hH : (convert 32 9 (.slice (some ⟨H, 0, none⟩) 1 1)).run Tryz.prog (W.alloc (.cells #[.int .u8 i.op.toNat] 5)) = .ok (.string (S o)) (W.alloc (.cells #[.int .u8 i.op.toNat] 5))))
  have HO := Lib.hid ho
  have HXA := Lib.hid hxa
  have HXB := Lib.hid hxb
  have HXL := Lib.hid hxl
  generalize (r.getD row0).op = r1 at *
  clear hl hr hc0 hz0 hr2 hm hz1 hz2 hz3 hl0 hxa hxb hxl ho
  have below2 : ∀ W : World, Below w.heap.size w W → ∀ O O', Below w.heap.size w ((W.alloc O).alloc O') := fun W hb O O' => (hb.alloc hb.size _).alloc (Nat.le_trans hb.size (below_box _ _).size) _
  have HB3f := Lib.hid below2
  clear below2
  by_cases m0 : m = 0
  · subst m0
    have HE := Lib.hid (show putL i = o ++ ([]) by rw [HIM.out, HO.out]; unfold immB; rw [if_pos rfl])
    go_enter Tryz.func32, Tryz.ntmps32
    go_wp2_with (first
      | (go_at_call 61; go_must ((with_reducible refine (HI.out _).mono ?_); rintro e w2 ⟨rfl, hb⟩; have HB2 := Lib.hid (HB.out.on hb); have hlt := HB2.out.lt; have c0 := HB2.out.c0; have c1 := HB2.out.c1; have c2 := HB2.out.c2; have c3 := HB2.out.c3; have hcv := fun O => HC1.out (w2.alloc O) (w2.heap.size + 1) (size_box _ _); clear hb)))
    go_ret
    exact str_put HE.out (by simp) (HB3f.out _ HB2.out.2 _ _)
  have d0 : ((m : Int) == 0) = false := by simp; omega
  by_cases m1 : m = 1
  · subst m1
    have HE := Lib.hid (show putL i = o ++ ([UInt8.ofNat i.a.toNat]) by rw [HIM.out, HO.out]; unfold immB; rw [if_neg (by omega), if_pos rfl])
    have ha := (HZ1.out rfl).1
    have hw : IntKind.u8.wrap i.a = i.a := by simp [IntKind.wrap, IntKind.bits, IntKind.signed]; omega
    obtain ⟨y, hy⟩ : ∃ y, y = [UInt8.ofNat i.a.toNat] := ⟨_, rfl⟩
    have sy : (S y).size = 1 := by rw [S_size, hy]; rfl
    have HC2 := Lib.hid (fun (W : World) (H : Nat) (hH : W.heap.size = H) => (by rw [hy]; exact conv2 (op := 0) hH i.a a0 ha : (convert 32 9 (.slice (some ⟨H, 0, none⟩) 1 1)).run Tryz.prog (W.alloc (.cells #[.int .u8 i.a] 5)) = .ok (.string (S y)) (W.alloc (.cells #[.int .u8 i.a] 5))))
    rw [← hy] at HE
    have q : (S o).size + (S y).size ≤ 9223372036854775807 := by omega
    clear hy
    go_enter Tryz.func32, Tryz.ntmps32
    go_wp2_with (go_at_call 61; go_must ((with_reducible refine (HI.out _).mono ?_); rintro e w2 ⟨rfl, hb⟩; have HB2 := Lib.hid (HB.out.on hb); have hlt := HB2.out.lt; have c0 := HB2.out.c0; have c1 := HB2.out.c1; have c2 := HB2.out.c2; have c3 := HB2.out.c3; have hcv := fun O => HC1.out (w2.alloc O) (w2.heap.size + 1) (size_box _ _); have hcv2 := fun O O' => HC2.out ((w2.alloc O).alloc O') (w2.heap.size + 1 + 1) (by rw [size_box, size_box]); clear hb))
    go_ret
    exact str_put HE.out (by rw [S_append]) ((HB3f.out _ HB2.out.2 _ _).alloc (by have := HB2.out.2.size; rw [size_box, size_box]; omega) _)
  have d1 : ((m : Int) == 1) = false := by simp; omega
  by_cases m3 : m = 3
  · subst m3
    have HE := Lib.hid (show putL i = o ++ (labL i.l ++ xa) by rw [HIM.out, HXA.out, HO.out]; unfold immB; rw [if_neg (by omega), if_neg (by omega), if_pos rfl])
    have q1 : (S o).size + (S xl).size ≤ 9223372036854775807 := by omega
    go_enter Tryz.func32, Tryz.ntmps32
    go_wp2_with (first
      | (go_at_call 61; go_must ((with_reducible refine (HI.out _).mono ?_); rintro e w2 ⟨rfl, hb⟩; have HB2 := Lib.hid (HB.out.on hb); have hlt := HB2.out.lt; have c0 := HB2.out.c0; have c1 := HB2.out.c1; have c2 := HB2.out.c2; have c3 := HB2.out.c3; have hcv := fun O => HC1.out (w2.alloc O) (w2.heap.size + 1) (size_box _ _); clear hb))
      | (go_at_call 62; go_must ((with_reducible refine (NL.out _).mono ?_); rintro e w3 ⟨rfl, hb⟩; have HB3 := Lib.hid (HB2.out.on3 hb); clear hb)))
    rw [S_append]
    obtain ⟨t0, ht0⟩ : ∃ t, t = o ++ xl := ⟨_, rfl⟩
    rw [← ht0]
    have HT0 := Lib.hid ht0
    clear ht0
    go_loopw [5, 6] (fun s j wr => ∃ k : Nat, k ≤ i.l.length ∧ j = .int .i64 k ∧ s = .string (S (t0 ++ labsL (i.l.take k))) ∧ BoxI w wr i A c) (fun _ j _ => i.l.length - (intOf j).toNat)
    case atStart => exact ⟨0, Nat.zero_le _, rfl, by simp [labsL], HB3.out⟩
    case round =>
      obtain ⟨k, hk, rfl, rfl, hbx⟩ := hrel
      have d3 := hbx.c3
      have d1 := hbx.c1
      have HBX := Lib.hid hbx
      have hlen : (t0 ++ labsL (i.l.take k)).length ≤ 200000 := by rw [List.length_append, HT0.out, List.length_append, HO.out]; have := labsL_take_len i.l HL0.out k h10; simp; omega
      by_cases hlt : k < i.l.length
      · obtain ⟨d, hd⟩ : ∃ d, i.l[k]? = some d := ⟨_, List.getElem?_eq_getElem hlt⟩
        obtain ⟨b, off, rfl, hbl, hcell⟩ := HL.out k _ (cells32_get hd)
        have hcell2 := (hbx.2.cell (p := ⟨b, off + k, none⟩) hbl).trans hcell
        have hdb := HL0.out d (List.mem_of_getElem? hd)
        have wd : IntKind.u64.wrap d = d := by simp [IntKind.wrap, IntKind.bits, IntKind.signed]; omega
        have ND := Lib.hid (fun W => num_any d W hdb.1 (by omega))
        have m2 := lebL_len d (by omega)
        have HS := Lib.hid (labsL_snoc hd)
        obtain ⟨y, hy⟩ : ∃ y, y = lebL d := ⟨_, rfl⟩
        rw [← hy] at ND m2 HS
        obtain ⟨t, ht⟩ : ∃ t, t = t0 ++ labsL (i.l.take k) := ⟨_, rfl⟩
        rw [← ht] at hlen ⊢
        have HTT := Lib.hid ht
        have st := S_size t
        have sy := S_size y
        have q : (S t).size + (S y).size ≤ 9223372036854775807 := by omega
        clear hcell hd hy ht hbx
        go_wp2_with (go_at_call 62; go_must ((with_reducible refine (ND.out _).mono ?_); rintro e w4 ⟨rfl, hb⟩; have HB4 := Lib.hid (HBX.out.on hb); clear hb))
        go_roundw
        case rel => exact ⟨k + 1, by omega, by go_num, by rw [S_append, HS.out, ← List.append_assoc, ← HTT.out], HB4.out⟩
        case measure => simp [intOf]; omega
      · obtain rfl : k = i.l.length := by omega
        obtain ⟨t, ht⟩ : ∃ t, t = t0 ++ labsL (i.l.take i.l.length) := ⟨_, rfl⟩
        rw [← ht] at hlen ⊢
        have HTT := Lib.hid (show t = o ++ labL i.l by rw [ht, HT0.out, List.take_of_length_le (Nat.le_refl _)]; unfold labL; rw [List.append_assoc, HXL.out])
        have st := S_size t
        have q : (S t).size + (S xa).size ≤ 9223372036854775807 := by omega
        clear ht hbx
        go_wp2_with (go_at_call 62; go_must ((with_reducible refine (NA.out _).mono ?_); rintro e w4 ⟨rfl, hb⟩; have HB4 := Lib.hid (HBX.out.on hb); clear hb))
        go_ret
        exact str_put HE.out (by rw [S_append, HTT.out, List.append_assoc]) HB4.out.2
  have d3 : ((m : Int) == 3) = false := by simp; omega
  by_cases m5 : m = 5
  · subst m5
    have HE := Lib.hid (show putL i = o ++ (xa ++ [0]) by rw [HIM.out, HXA.out, HO.out]; unfold immB; rw [if_neg (by omega), if_neg (by omega), if_neg (by omega), if_pos rfl])
    have q1 : (S o).size + (S xa).size ≤ 9223372036854775807 := by omega
    have q2 : (S o).size + (S xa).size + 1 ≤ 9223372036854775807 := by omega
    go_enter Tryz.func32, Tryz.ntmps32
    go_wp2_with (first
      | (go_at_call 61; go_must ((with_reducible refine (HI.out _).mono ?_); rintro e w2 ⟨rfl, hb⟩; have HB2 := Lib.hid (HB.out.on hb); have hlt := HB2.out.lt; have c0 := HB2.out.c0; have c1 := HB2.out.c1; have c2 := HB2.out.c2; have c3 := HB2.out.c3; have hcv := fun O => HC1.out (w2.alloc O) (w2.heap.size + 1) (size_box _ _); clear hb))
      | (go_at_call 62; go_must ((with_reducible refine (NA.out _).mono ?_); rintro e w3 ⟨rfl, hb⟩; have HB3 := Lib.hid hb; clear hb)))
    go_ret
    exact str_put HE.out (by rw [show ({ data := #[0] } : ByteArray) = S [0] from rfl, S_append, S_append, List.append_assoc]) ((HB3f.out _ HB2.out.2 _ _).trans (HB3.out.mono (HB3f.out _ HB2.out.2 _ _).size))
  have d5 : ((m : Int) == 5) = false := by simp; omega
  by_cases m8 : m = 8
  · subst m8
    have HE := Lib.hid (show putL i = o ++ (xa ++ xb) by rw [HIM.out, HXA.out, HXB.out, HO.out]; unfold immB; rw [if_neg (by omega), if_neg (by omega), if_neg (by omega), if_neg (by omega), if_pos rfl])
    have q1 : (S o).size + (S xa).size ≤ 9223372036854775807 := by omega
    have q2 : (S o).size + (S xa).size + (S xb).size ≤ 9223372036854775807 := by omega
    have q3 : ¬ 9223372036854775807 < (S o).size + (S xa).size := by omega
    have q4 : ¬ 9223372036854775807 < (S o).size + (S xa).size + (S xb).size := by omega
    go_enter Tryz.func32, Tryz.ntmps32
    go_wp2_with (first
      | (go_at_call 61; go_must ((with_reducible refine (HI.out _).mono ?_); rintro e w2 ⟨rfl, hb⟩; have HB2 := Lib.hid (HB.out.on hb); have hlt := HB2.out.lt; have c0 := HB2.out.c0; have c1 := HB2.out.c1; have c2 := HB2.out.c2; have c3 := HB2.out.c3; have hcv := fun O => HC1.out (w2.alloc O) (w2.heap.size + 1) (size_box _ _); clear hb)))
    clear q1 q2 so sa sb sl
    have HS0 := Lib.hid (HB2.out.two3)
    go_region_held3 (fun W => BoxI w W i A c ∧ W.cell? ⟨w.heap.size, 1, none⟩ = some (.int .u64 i.a) ∧ W.cell? ⟨w.heap.size, 2, none⟩ = some (.int .u64 i.b))
      (first | assumption | exact BoxI.three (HS0.out _ _) | exact BoxI.three ((HS0.out _ _).drewN 1))
      (first | (go_at_call 62; first | ((with_reducible refine (held_num NA.out ‹_›).mono ?_); rintro e w3 ⟨rfl, hk3⟩) | ((with_reducible refine (held_num NB.out ‹_›).mono ?_); rintro e w4 ⟨rfl, hk4⟩)))
    go_wp2
    go_ret
    exact str_put HE.out (by rw [S_append, S_append, List.append_assoc]) (BoxI.bel hk4.1)
  have d8 : ((m : Int) == 8) = false := by simp; omega
  by_cases m9 : m = 9
  · subst m9
    have HE := Lib.hid (show putL i = o ++ ([0]) by rw [HIM.out, HO.out]; unfold immB; rw [if_neg (by omega), if_neg (by omega), if_neg (by omega), if_neg (by omega), if_neg (by omega), if_pos rfl])
    have q1 : (S o).size + 1 ≤ 9223372036854775807 := by omega
    go_enter Tryz.func32, Tryz.ntmps32
    go_wp2_with (first
      | (go_at_call 61; go_must ((with_reducible refine (HI.out _).mono ?_); rintro e w2 ⟨rfl, hb⟩; have HB2 := Lib.hid (HB.out.on hb); have hlt := HB2.out.lt; have c0 := HB2.out.c0; have c1 := HB2.out.c1; have c2 := HB2.out.c2; have c3 := HB2.out.c3; have hcv := fun O => HC1.out (w2.alloc O) (w2.heap.size + 1) (size_box _ _); clear hb)))
    go_ret
    exact str_put HE.out (by rw [show ({ data := #[0] } : ByteArray) = S [0] from rfl, S_append]) (HB3f.out _ HB2.out.2 _ _)
  have d9 : ((m : Int) == 9) = false := by simp; omega
  by_cases m10 : m = 10
  · subst m10
    have HE := Lib.hid (show putL i = o ++ (sebL (s32 i.a)) by rw [HIM.out, HO.out]; unfold immB; rw [if_neg (by omega), if_neg (by omega), if_neg (by omega), if_neg (by omega), if_neg (by omega), if_neg (by omega), if_pos rfl])
    have hs : -9223372036854775808 ≤ s32 i.a ∧ s32 i.a ≤ 9223372036854775807 := by unfold s32; omega
    have kz := sebL_len (s32 i.a) hs.1 hs.2
    have NZ := Lib.hid (fun W => signed32_any i.a W a0 a1)
    generalize sebL (s32 i.a) = z at *
    have sz := S_size z
    have q1 : (S o).size + (S z).size ≤ 9223372036854775807 := by omega
    go_enter Tryz.func32, Tryz.ntmps32
    go_wp2_with (first
      | (go_at_call 61; go_must ((with_reducible refine (HI.out _).mono ?_); rintro e w2 ⟨rfl, hb⟩; have HB2 := Lib.hid (HB.out.on hb); have hlt := HB2.out.lt; have c0 := HB2.out.c0; have c1 := HB2.out.c1; have c2 := HB2.out.c2; have c3 := HB2.out.c3; have hcv := fun O => HC1.out (w2.alloc O) (w2.heap.size + 1) (size_box _ _); clear hb))
      | (go_at_call 63; go_must ((with_reducible refine (NZ.out _).mono ?_); rintro e w3 ⟨rfl, hb⟩; have HB3 := Lib.hid hb; clear hb)))
    go_ret
    exact str_put HE.out (by rw [S_append]) ((HB3f.out _ HB2.out.2 _ _).trans (HB3.out.mono (HB3f.out _ HB2.out.2 _ _).size))
  have d10 : ((m : Int) == 10) = false := by simp; omega
  by_cases m11 : m = 11
  · subst m11
    have HE := Lib.hid (show putL i = o ++ (sebL (s64 i.a)) by rw [HIM.out, HO.out]; unfold immB; rw [if_neg (by omega), if_neg (by omega), if_neg (by omega), if_neg (by omega), if_neg (by omega), if_neg (by omega), if_neg (by omega), if_pos rfl])
    have hs : -9223372036854775808 ≤ s64 i.a ∧ s64 i.a ≤ 9223372036854775807 := by unfold s64; omega
    have kz := sebL_len (s64 i.a) hs.1 hs.2
    have NZ := Lib.hid (fun W => signed64_any i.a W a0 a1)
    generalize sebL (s64 i.a) = z at *
    have sz := S_size z
    have q1 : (S o).size + (S z).size ≤ 9223372036854775807 := by omega
    go_enter Tryz.func32, Tryz.ntmps32
    go_wp2_with (first
      | (go_at_call 61; go_must ((with_reducible refine (HI.out _).mono ?_); rintro e w2 ⟨rfl, hb⟩; have HB2 := Lib.hid (HB.out.on hb); have hlt := HB2.out.lt; have c0 := HB2.out.c0; have c1 := HB2.out.c1; have c2 := HB2.out.c2; have c3 := HB2.out.c3; have hcv := fun O => HC1.out (w2.alloc O) (w2.heap.size + 1) (size_box _ _); clear hb))
      | (go_at_call 63; go_must ((with_reducible refine (NZ.out _).mono ?_); rintro e w3 ⟨rfl, hb⟩; have HB3 := Lib.hid hb; clear hb)))
    go_ret
    exact str_put HE.out (by rw [S_append]) ((HB3f.out _ HB2.out.2 _ _).trans (HB3.out.mono (HB3f.out _ HB2.out.2 _ _).size))
  have d11 : ((m : Int) == 11) = false := by simp; omega
  have HE := Lib.hid (show putL i = o ++ xa by rw [HIM.out, HXA.out, HO.out]; unfold immB; rw [if_neg m0, if_neg m1, if_neg m3, if_neg m5, if_neg m8, if_neg m9, if_neg m10, if_neg m11])
  have q1 : (S o).size + (S xa).size ≤ 9223372036854775807 := by omega
  clear HIM
  go_enter Tryz.func32, Tryz.ntmps32
  go_wp2_with (first
    | (go_at_call 61; go_must ((with_reducible refine (HI.out _).mono ?_); rintro e w2 ⟨rfl, hb⟩; have HB2 := Lib.hid (HB.out.on hb); have hlt := HB2.out.lt; have c0 := HB2.out.c0; have c1 := HB2.out.c1; have c2 := HB2.out.c2; have c3 := HB2.out.c3; have hcv := fun O => HC1.out (w2.alloc O) (w2.heap.size + 1) (size_box _ _); clear hb))
    | (go_at_call 62; go_must ((with_reducible refine (NA.out _).mono ?_); rintro e w3 ⟨rfl, hb⟩; have HB3 := Lib.hid hb; clear hb)))
  go_ret
  exact str_put HE.out (by rw [S_append]) ((HB3f.out _ HB2.out.2 _ _).trans (HB3.out.mono (HB3f.out _ HB2.out.2 _ _).size))
end Go.Proofs.YtebgmfjgapmpfabGreatDoor
