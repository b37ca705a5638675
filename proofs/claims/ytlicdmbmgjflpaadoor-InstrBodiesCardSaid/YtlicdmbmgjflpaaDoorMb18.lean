/- The walk of InstrBodies. -/
import Derived.Test.YtlicdmbmgjflpaaDoorMb14
import Derived.Test.YtlicdmbmgjflpaaDoorMb16
import Derived.Test.YtlicdmbmgjflpaaDoorMb17
import Derived.Test.YtlicdmbmgjflpaaDoorMb12
import Derived.ProofKit
import Derived.OpenShut
import Derived.ShutString
import Derived.ChangeOld
import Derived.Deep.Slices
import Derived.Lib.SmallJoins
import Derived.Test.YtlicdmbmgjflpaaDoorMb15
import Derived.Deep.Fields
import Derived.ChangeSame
import Derived.Test.YtlicdmbmgjflpaaDoorMb08
import Derived.Test.YtlicdmbmgjflpaaDoorTie
import Derived.Lib.LaidIn
import Derived.Lib.LaidU8
import Derived.LaidMore
import Derived.MakeChecks
import Derived.Stop.Joined
namespace Go.Proofs.YtlicdmbmgjflpaaDoor
open Go.RowKit
set_option linter.unusedVariables false
set_option maxRecDepth 100000

theorem errZ_snoc : ∀ (l : List I) (i : I), errZ (l ++ [i]) = if errZ l ≠ 0 then errZ l else rightZ i
  | [], i => by
    show (if rightZ i ≠ 0 then rightZ i else 0) = _
    by_cases h : rightZ i = 0
    · rw [if_neg (by omega)]; show 0 = (if (0 : Int) ≠ 0 then 0 else rightZ i); rw [if_neg (by omega), h]
    · rw [if_pos h]; show _ = (if (0 : Int) ≠ 0 then 0 else rightZ i); rw [if_neg (by omega)]
  | j :: r, i => by
    show (if rightZ j ≠ 0 then rightZ j else errZ (r ++ [i])) = (if (if rightZ j ≠ 0 then rightZ j else errZ r) ≠ 0 then (if rightZ j ≠ 0 then rightZ j else errZ r) else rightZ i)
    by_cases h : rightZ j = 0
    · have hn : ¬ rightZ j ≠ 0 := by omega
      simp only [if_neg hn]
      exact errZ_snoc r i
    · have hp : rightZ j ≠ 0 := h
      simp only [if_pos hp]
/-- The law's code behind k instructions. -/
def codeTo (z : Int) (l : List I) (k : Nat) : Int := if z = 0 then errZ (l.take k) else z
theorem codeTo_step {z : Int} {l : List I} {k : Nat} {i : I} (h : l[k]? = some i) : codeTo z l (k + 1) = if codeTo z l k = 0 then rightZ i else codeTo z l k := by
  unfold codeTo
  by_cases hz : z = 0
  · rw [if_pos hz, if_pos hz, take_snocG h, errZ_snoc]
    by_cases he : errZ (l.take k) = 0
    · rw [if_neg (by omega), if_pos he]
    · rw [if_pos he, if_neg he]
  · rw [if_neg hz, if_neg hz, if_neg hz]
theorem codeTo_end {l : List I} : codeTo (shapeZ l) l l.length = codeZ l := by
  unfold codeTo codeZ
  rw [List.take_of_length_le (Nat.le_refl _)]
/-- What the law keeps of its input. -/
structure LBt (w : World) (A : Option Addr) (l : List I) (M : Option Addr) (ms : List UInt8) (W : World) : Prop where
  tb : Tabs W
  bel : Below w.heap.size w W
  ins : Ins W A l
  lm : Lies W W.heap.size M (cells (nums ms))
section
variable {w W W' : World} {A M : Option Addr} {l : List I} {ms : List UInt8}
theorem LBt.on (h : LBt w A l M ms W) (hb : Below W.heap.size W W') : LBt w A l M ms W' :=
  ⟨h.tb.below hb, h.bel.trans (hb.mono h.bel.size), h.ins.below hb, (h.lm.below hb (Nat.le_refl _)).more hb.size⟩
/-- .. and the bytes that PutBody made. -/
structure LBb (w : World) (A : Option Addr) (l : List I) (M : Option Addr) (ms : List UInt8) (v : Value) (xs : List UInt8) (W : World) : Prop where
  a : LBt w A l M ms W
  r : Row W w.heap.size v xs
theorem LBb.on {v : Value} {xs : List UInt8} (h : LBb w A l M ms v xs W) (hb : Below W.heap.size W W') : LBb w A l M ms v xs W' := ⟨h.a.on hb, h.r.later hb⟩
theorem LBb.lb {Ab : Option Addr} {cb : Nat} {xs : List UInt8} (h : LBb w A l M ms (.slice Ab xs.length cb) xs W) : Lies W W.heap.size Ab (cells (nums xs)) := by
  obtain ⟨A', c', e, hl, _⟩ := h.r.liesN
  injection e with e1 e2 e3
  subst e1
  exact hl
end
theorem bodyL_pos {l : List I} (h : shapeGo [] (opsOf l) = true) : 0 < (bodyL l).length := by
  cases l with
  | nil => unfold opsOf at h; simp [shapeGo] at h
  | cons i r => unfold bodyL putL; simp
theorem code_zero {l : List I} (h : codeZ l = 0) : shapeGo [] (opsOf l) = true ∧ (∀ i ∈ l, rightZ i = 0) ∧ shapeZ l = 0 := by
  unfold codeZ at h
  by_cases hs : shapeZ l = 0
  · rw [if_pos hs] at h
    refine ⟨?_, errZ_all h, hs⟩
    unfold shapeZ at hs
    by_cases hg : shapeGo [] (opsOf l) = true
    · exact hg
    · rw [if_neg hg] at hs; cases hs
  · rw [if_neg hs] at h; exact absurd h hs
set_option maxHeartbeats 4000000 in
theorem lawB_any {w : World} {A M : Option Addr} {c cm : Nat} {l : List I} {ms : List UInt8} (hT : Tabs w) (hi : Ins w A l ∧ ∀ i ∈ l, i.Ok ∧ (i.l.length : Int) ≤ 9223372036854775807) (nl : (l.length : Int) ≤ 9223372036854775807) (hm : Lies w w.heap.size M (cells (nums ms))) (hM : M = none → cm = 0) (nm : (ms.length : Int) ≤ 9223372036854775807) :
    Calls Tryd.prog 4 #[.slice A l.length c, .slice M ms.length cm] w (BoolPost true w) := by
  have HAW := Lib.hid (awake_any w hT)
  have H0 : Hid (LBt w A l M ms w) := ⟨hT, Below.refl _ _, hi.1, hm⟩
  have HOK := Lib.hid hi.2
  clear hT hi hm
  by_cases g1 : 60 < l.length
  · have t1 : decide (60 < (l.length : Int)) = true := decide_eq_true (by omega)
    go_enter Tryd.func4, Tryd.ntmps4
    go_wp2_with (go_at_call 5; go_must ((with_reducible refine HAW.out.mono ?_); rintro e w1 ⟨rfl, hb⟩; have H1 := Lib.hid (H0.out.on hb); clear hb))
    go_ret
    exact ⟨rfl, H1.out.bel⟩
  have t1 : decide (60 < (l.length : Int)) = false := decide_eq_false (by omega)
  by_cases g2 : 60 < ms.length
  · have t2 : decide (60 < (ms.length : Int)) = true := decide_eq_true (by omega)
    go_enter Tryd.func4, Tryd.ntmps4
    go_wp2_with (go_at_call 5; go_must ((with_reducible refine HAW.out.mono ?_); rintro e w1 ⟨rfl, hb⟩; have H1 := Lib.hid (H0.out.on hb); clear hb))
    go_ret
    exact ⟨rfl, H1.out.bel⟩
  have t2 : decide (60 < (ms.length : Int)) = false := decide_eq_false (by omega)
  have HRS := Lib.hid (fun W (h : Ins W A l) => refShape_any (c := c) h (by omega))
  have HSH := Lib.hid (fun W (h1 : Tabs W) (h2 : Ins W A l) => shape_any (c := c) h1 h2 (by omega))
  obtain ⟨z, hz⟩ : ∃ z, z = shapeZ l := ⟨_, rfl⟩
  rw [← hz] at HRS HSH
  have HZ := Lib.hid hz
  obtain ⟨n, hnn⟩ : ∃ n, n = l.length := ⟨_, rfl⟩
  rw [← hnn] at HRS HSH t1 ⊢
  have hn60 : n ≤ 60 := by omega
  have HNN := Lib.hid hnn
  have hm60 : ms.length ≤ 60 := by omega
  clear hz hnn g1 g2 nl nm
  go_enter Tryd.func4, Tryd.ntmps4
  go_wp2_with (first
    | (go_at_call 5; go_must ((with_reducible refine HAW.out.mono ?_); rintro e w1 ⟨rfl, hb⟩; have H1 := Lib.hid (H0.out.on hb); clear hb))
    | (go_at_call 13; go_must ((with_reducible refine (HRS.out _ H1.out.ins).mono ?_); rintro e w2 ⟨rfl, hb⟩; have H2 := Lib.hid (H1.out.on hb); clear hb)))
  go_loopw [6, 7, 8] (fun s q i wr => ∃ (k : Nat) (t : List UInt8), k ≤ n ∧ i = .int .i64 k ∧ q = .int .i64 (codeTo z l k) ∧ s = .string (S t) ∧ t.length ≤ k * 1100 ∧ (codeTo z l k = 0 → t = bodyL (l.take k)) ∧ (∀ i ∈ l.take k, i.l.length ≤ 100) ∧ LBt w A l M ms wr) (fun _ _ i _ => n - (intOf i).toNat)
  case atStart => exact ⟨0, [], Nat.zero_le _, rfl, by unfold codeTo; by_cases g : z = 0 <;> simp [g, errZ], rfl, by simp, fun _ => rfl, (fun i hi => by cases hi), H2.out⟩
  case round =>
    obtain ⟨k, t, hk, rfl, rfl, rfl, htl, htb, hll, hst⟩ := hrel
    have HST := Lib.hid hst
    by_cases hlt : k < n
    · obtain ⟨i, hi⟩ : ∃ i, l[k]? = some i := ⟨_, List.getElem?_eq_getElem (by rw [← HNN.out]; exact hlt)⟩
      obtain ⟨b, off, B, cc, rfl, hbl, ⟨k0, k1, k2, k3⟩, hlab⟩ := hst.ins k i hi
      obtain ⟨hok, hoklen⟩ := HOK.out i (List.mem_of_getElem? hi)
      by_cases hbig : 100 < i.l.length
      · have d1 : decide (100 < (i.l.length : Int)) = true := decide_eq_true (by omega)
        clear hst htb hll hlab hi
        go_wp2
        go_ret
        exact ⟨rfl, HST.out.bel⟩
      · have d1 : decide (100 < (i.l.length : Int)) = false := decide_eq_false (by omega)
        have HLL : Hid (∀ j ∈ l.take (k + 1), j.l.length ≤ 100) := fun j hj => by
          rw [take_snocG hi] at hj
          rcases List.mem_append.1 hj with hj | hj
          · exact hll j hj
          · rw [List.mem_singleton] at hj; subst hj; omega
        have hstep := codeTo_step (z := z) hi
        have HSN := Lib.hid (bodyL_snoc hi)
        have hpl := putL_len hok (by omega)
        have HRR := Lib.hid (refRight_any i B cc wr hok hoklen)
        by_cases hc0 : codeTo z l k = 0
        · rw [if_pos hc0] at hstep
          have ht := htb hc0
          have e0 : (codeTo z l k == 0) = true := by simpa using hc0
          obtain ⟨q, hq⟩ : ∃ q, q = codeTo z l k := ⟨_, rfl⟩
          rw [← hq] at e0 hc0 ⊢
          by_cases hri : rightZ i = 0
          · have HRP := Lib.hid (fun W (h : Below wr.heap.size wr W) => refPut_any i B cc W hok hri (hlab.below h))
            rw [hri] at HRR hstep
            have HSTEP := Lib.hid hstep
            have HT := Lib.hid ht
            obtain ⟨y, hy⟩ : ∃ y, y = putL i := ⟨_, rfl⟩
            rw [← hy] at HRP hpl HSN
            have st := S_size t
            have sy := S_size y
            have q1 : (S t).size + (S y).size ≤ 9223372036854775807 := by omega
            clear hst htb hll hlab hi hstep hok hri hq ht hy
            go_wp2_with (first
              | (go_at_call 6; go_must ((with_reducible refine HRR.out.mono ?_); rintro e w3 ⟨rfl, hb⟩; have H3 := Lib.hid (HST.out.on hb); have HB3 := Lib.hid hb; have m0 := (hb.cell (p := ⟨b, off + k * 4, none⟩) hbl).trans k0; have m1 := (hb.cell (p := ⟨b, off + k * 4 + 1, none⟩) hbl).trans k1; have m2 := (hb.cell (p := ⟨b, off + k * 4 + 2, none⟩) hbl).trans k2; have m3 := (hb.cell (p := ⟨b, off + k * 4 + 3, none⟩) hbl).trans k3; clear hb))
              | (go_at_call 12; go_must ((with_reducible refine (HRP.out _ HB3.out).mono ?_); rintro e w4 ⟨rfl, hb⟩; have H4 := Lib.hid (H3.out.on hb); clear hb)))
            go_roundw
            case rel => exact ⟨k + 1, t ++ y, by omega, by go_num, by rw [HSTEP.out], by rw [S_append], by rw [List.length_append]; omega, fun _ => by rw [HSN.out, HT.out], HLL.out, H4.out⟩
            case measure => simp [intOf]; omega
          · have HSTEP := Lib.hid hstep
            have HRN := Lib.hid hri
            have e1 : (rightZ i == 0) = false := by simpa using hri
            obtain ⟨ri, hrr⟩ : ∃ ri, ri = rightZ i := ⟨_, rfl⟩
            rw [← hrr] at HRR HSTEP e1 HRN
            clear hst htb hll hlab hi hstep hok hri hq ht hrr
            go_wp2_with (go_at_call 6; go_must ((with_reducible refine HRR.out.mono ?_); rintro e w3 ⟨rfl, hb⟩; have H3 := Lib.hid (HST.out.on hb); clear hb))
            go_roundw
            case rel => exact ⟨k + 1, t, by omega, by go_num, by rw [HSTEP.out], rfl, by omega, fun e => absurd (HSTEP.out.symm.trans e) HRN.out, HLL.out, H3.out⟩
            case measure => simp [intOf]; omega
        · rw [if_neg hc0] at hstep
          have HSTEP := Lib.hid hstep
          have HCN := Lib.hid hc0
          have e0 : (codeTo z l k == 0) = false := by simpa using hc0
          obtain ⟨q, hq⟩ : ∃ q, q = codeTo z l k := ⟨_, rfl⟩
          rw [← hq] at e0 HSTEP HCN ⊢
          clear hst htb hll hlab hi hstep hok hc0 hq
          go_wp2
          go_roundw
          case rel => exact ⟨k + 1, t, by omega, by go_num, by rw [HSTEP.out], rfl, by omega, fun e => absurd (HSTEP.out.symm.trans e) HCN.out, HLL.out, HST.out⟩
          case measure => simp [intOf]; omega
    · obtain rfl : k = n := by omega
      have hce : codeTo z l k = codeZ l := by rw [HZ.out, HNN.out]; exact codeTo_end
      have htk : l.take k = l := List.take_of_length_le (by rw [← HNN.out]; exact Nat.le_refl _)
      rw [htk] at htb hll
      rw [hce] at htb ⊢
      have hokl : ∀ i ∈ l, i.Ok ∧ i.l.length ≤ 100 := fun i hi => ⟨(HOK.out i hi).1, hll i hi⟩
      have HPB := Lib.hid (fun W (h1 : Tabs W) (h2 : Ins W A l) => putBody_any (c := c) h1 h2 (by rw [← HNN.out]; exact hn60) hokl)
      rw [← HNN.out] at HPB
      have hbl := bodyL_len l hokl
      rw [← HNN.out] at hbl
      by_cases hc0 : codeZ l = 0
      · obtain ⟨hsg, hall, _⟩ := code_zero hc0
        have ht := htb hc0
        have HPB2 := Lib.hid (fun W (h1 : Tabs W) (h2 : Ins W A l) => show Calls Tryd.prog 14 #[.slice A k c] W fun e w' => ∃ v, e = .returned (.tuple #[v, .int .i64 0]) ∧ Row w' W.heap.size v (bodyL l) ∧ Below W.heap.size W w' from (HPB.out W h1 h2).mono fun e w' ⟨v, h1, h2, h3⟩ => ⟨v, by rw [hc0] at h1; exact h1, by rw [if_pos hc0] at h2; exact h2, h3⟩)
        have hpos := bodyL_pos hsg
        have HPA := Lib.hid (fun W (A' : Option Addr) (c' : Nat) (h1 : Tabs W) (h2 : Lies W W.heap.size A' (cells (nums (bodyL l ++ ms)))) => parseBody_ok (cap := c') h1 (fun i hi => ⟨(HOK.out i hi).1, hall i hi⟩) hsg (by rw [← HNN.out]; omega) h2 (by rw [List.length_append]; omega) (by rw [List.length_append]; omega) rfl)
        have HSA := Lib.hid (fun W (A2 : Option Addr) (c2 : Nat) (h1 : Ins W A2 l) (h2 : Ins W A l) => sameAll_any (c := c2) (d := c) h1 h2 (by rw [← HNN.out]; omega) (fun i hi => (hokl i hi).2))
        rw [← HNN.out] at HSA
        rw [hc0]
        rw [ht]
        obtain ⟨xs, hxs⟩ : ∃ xs, xs = bodyL l := ⟨_, rfl⟩
        rw [← hxs] at HPB2 hpos HPA hbl ⊢
        obtain ⟨ys, hys⟩ : ∃ ys, ys = xs ++ ms := ⟨_, rfl⟩
        rw [← hys] at HPA
        have HYS := Lib.hid hys
        have HXA := Lib.hid (show xs.length + ms.length ≤ 1000000 by omega)
        have HNK := Lib.hid (show ∀ (fl : Nat), fl = l.length → fl = k from fun fl h => by rw [h, HNN.out])
        clear hst htb hll hokl hbl hc0 hsg hall ht hxs hys HPB hce htk htl
        go_wp2_with (first
          | (at_builtin; (refine row_any rfl _ _ rfl w4.heap.size _ xs rfl HR7.out M ms.length cm _ ms rfl rfl (H4.out.a.on HB7.out).lm hM HXA.out HB7.out.size ?_; intro v8 w8 hr8 hb8; rw [← HYS.out] at hr8; obtain ⟨A8, c8, rfl, hl8, _⟩ := hr8.liesN; have HL8 := Lib.hid hl8; have HB8 := Lib.hid (HB7.out.trans hb8); clear hr8 hb8 hl8))
          | (at_builtin; (refine row_lies rfl _ _ rfl w4.heap.size _ [] rfl (Row.made w4 [] w4.heap.size w4.heap.size rfl (Nat.le_refl _) (by simp)) Ab xs.length cb _ xs rfl rfl (lies_box H4.out.lb _) hpos (by have := HXA.out; simp; omega) (by simp) ?_; intro v7 w7 hr7 hb7; have HR7 := Lib.hid (show Row w7 w4.heap.size v7 xs from hr7); have HB7 := Lib.hid ((below_box w4 (.cells #[] 5)).trans hb7); clear hr7 hb7))
          | (go_at_call 14; go_must ((with_reducible refine (HPB2.out _ HST.out.tb HST.out.ins).mono ?_); intro e w3 hq; obtain ⟨v, rfl, hr, hb⟩ := hq; obtain ⟨Ab, cb, rfl, _, _⟩ := hr.liesN; have H3 := Lib.hid (show LBb w A l M ms (.slice Ab xs.length cb) xs w3 from ⟨HST.out.on hb, hr.mono HST.out.bel.size⟩); clear hb hr))
          | (go_at_call 15; go_must ((with_reducible refine (HSH.out _ H3.out.a.tb H3.out.a.ins).mono ?_); rintro e w4 ⟨rfl, hb⟩; have H4 := Lib.hid (H3.out.on hb); clear hb))
          | (go_at_call 16; go_must ((with_reducible refine (HPA.out _ _ _ (H4.out.on HB8.out).a.tb HL8.out).mono ?_); intro e w9 hq; obtain ⟨A2, c2, rfl, hla, hb⟩ := hq; rw [HNK.out _ rfl]; have H9 := Lib.hid ((H4.out.on HB8.out).on hb); have HLA := Lib.hid hla.ins; obtain ⟨Ac, ccv, ecv, hcv⟩ := (H9.out.on (below_box w9 (.cells #[.int .i64 0, .int .i64 0] 35))).r.str; injection ecv with ec1 ec2 ec3; subst ec1; subst ec3; have hcv2 := hcv 9 Tryd.underlying9; clear hla hb hcv))
          | (go_at_call 17; go_must ((with_reducible refine (HSA.out _ _ _ (HLA.out.below (below_box w9 (.cells #[.int .i64 0, .int .i64 0] 35))) (H9.out.on (below_box w9 (.cells #[.int .i64 0, .int .i64 0] 35))).a.ins).mono ?_); rintro e w10 ⟨rfl, hb⟩; have H10 := Lib.hid ((H9.out.on (below_box w9 (.cells #[.int .i64 0, .int .i64 0] 35))).on hb); clear hb)))
        go_ret
        exact ⟨rfl, H10.out.a.bel⟩
      · have HPB2 := Lib.hid (fun W (h1 : Tabs W) (h2 : Ins W A l) => show Calls Tryd.prog 14 #[.slice A k c] W fun e w' => ∃ v, e = .returned (.tuple #[v, .int .i64 (codeZ l)]) ∧ Row w' W.heap.size v [] ∧ Below W.heap.size W w' from (HPB.out W h1 h2).mono fun e w' ⟨v, h1, h2, h3⟩ => ⟨v, h1, by rw [if_neg hc0] at h2; exact h2, h3⟩)
        obtain ⟨cz, hcz⟩ : ∃ cz, cz = codeZ l := ⟨_, rfl⟩
        rw [← hcz] at HPB2 hc0 ⊢
        have hzb : (cz != 0) = true := by simpa using hc0
        obtain ⟨xs, hxs⟩ : ∃ xs : List UInt8, xs = [] := ⟨_, rfl⟩
        have hxl : (xs.length : Int) = 0 := by rw [hxs]; rfl
        rw [← hxs] at HPB2
        clear hst htb hll hokl hbl hc0 hcz hxs HPB hce htk htl
        go_wp2_with (first
          | (go_at_call 14; go_must ((with_reducible refine (HPB2.out _ HST.out.tb HST.out.ins).mono ?_); intro e w3 hq; obtain ⟨v, rfl, hr, hb⟩ := hq; obtain ⟨Ab, cb, rfl, _, _⟩ := hr.liesN; have H3 := Lib.hid (show LBb w A l M ms (.slice Ab xs.length cb) xs w3 from ⟨HST.out.on hb, hr.mono HST.out.bel.size⟩); clear hb hr))
          | (go_at_call 15; go_must ((with_reducible refine (HSH.out _ H3.out.a.tb H3.out.a.ins).mono ?_); rintro e w4 ⟨rfl, hb⟩; have H4 := Lib.hid (H3.out.on hb); clear hb)))
        go_ret
        exact ⟨rfl, H4.out.a.bel⟩
end Go.Proofs.YtlicdmbmgjflpaaDoor

/- An instruction by value, its labels, a slice of bytes: opened. -/
namespace Go.Proofs.YtlicdmbmgjflpaaDoor
open Go.ChangeShapes Go.WideShapes Go.ChangeAt Go.RowKit Go.Joins
set_option linter.unusedVariables false
set_option maxRecDepth 100000

theorem laidOut : laidOutB Tryd.prog = true := by kernel_rfl
theorem own : ownKnob Tryd.prog.godebug = none := by kernel_rfl
theorem cellsB : Tryd.prog.cellsOf 5 = 1 := by kernel_rfl
theorem cells4 : Tryd.prog.cellsOf 62 = 1 := by kernel_rfl
section
variable {H : Type} {enc : TypeId × Value → H} {W : World} {sp : Nat → Bool}
theorem ints_lie {k : IntKind} {a : Addr} {len : Nat} {zs : List Int} (hle : len ≤ zs.length) (hcell : ∀ i, i < zs.length → W.cell? (a.add i) = some (.int k (zs.getD i 0))) :
    ∀ j v, ((zs.take len).map (Value.int k))[j]? = some v → ∃ b off, some a = some (⟨b, off, none⟩ : Addr) ∧ b < W.heap.size ∧ W.cell? ⟨b, off + j, none⟩ = some v := by
  intro i v hv
  have hi : i < len := by
    have := (List.getElem?_eq_some_iff.1 hv).1
    rw [List.length_map, List.length_take] at this
    omega
  obtain ⟨b, off, spot⟩ := a
  have hsp : spot = none := by
    have h0 := hcell 0 (by omega)
    simpa [Addr.add] using World.cell?_spot h0
  subst hsp
  have hc := hcell i (by omega)
  rw [Go.WideShapes.add_plain] at hc
  refine ⟨b, off, rfl, block_lt_of_cell hc, ?_⟩
  rw [hc, ← hv, List.getElem?_map, List.getElem?_take, if_pos hi, List.getElem?_eq_getElem (by omega : i < zs.length)]
  simp [List.getD, List.getElem?_eq_getElem (by omega : i < zs.length)]
theorem open_labels {n : Nat} {v : Value} {y : DataW H × List MemPlace} (h : DataW.trod enc Tryd.prog W 0 sp true n 23 [v] = some y) :
    ∃ A c l, v = .slice A l.length c ∧ LiesL W A l ∧ (∀ d ∈ l, 0 ≤ d ∧ d ≤ 4294967295) ∧ (l.length : Int) ≤ 9223372036854775807 := by
  rcases open_ints Tryd.underlying23 Tryd.underlying62 cells4 h with ⟨hcs, _⟩ | ⟨a, l, c, zs, hcs, _, hl, hm, hz, _, hcell, hwf⟩
  · simp at hcs
    exact ⟨none, 0, [], hcs, fun j v hv => by simp [cells32] at hv, by simp, by simp⟩
  · simp at hcs
    subst hcs
    have hle : l ≤ zs.length := by rw [hz]; split <;> omega
    have hlen : (zs.take l).length = l := by rw [List.length_take]; omega
    unfold maxLen at hm
    refine ⟨some a, c, zs.take l, by rw [hlen], ints_lie hle hcell, fun d hd => ?_, by rw [hlen]; omega⟩
    have w0 := hwf d (List.mem_of_mem_take hd)
    simpa [Lit.wf, IntKind.min, IntKind.max, IntKind.signed, IntKind.bits] using w0
theorem nums_ex : ∀ r : List Int, (∀ c ∈ r, 0 ≤ c ∧ c ≤ 255) → ∃ l : List UInt8, nums l = r
  | [], _ => ⟨[], rfl⟩
  | c :: r, h => by
    obtain ⟨l, hl⟩ := nums_ex r (fun d hd => h d (List.mem_cons_of_mem _ hd))
    have hc := h c (by simp)
    refine ⟨UInt8.ofNat c.toNat :: l, ?_⟩
    unfold nums at hl ⊢
    rw [List.map_cons, hl, u8_of hc.1 hc.2]
theorem open_bytes {A : Option Addr} {len cap : Nat} {d : DataW H} {p : List MemPlace} (h : DataW.Trod enc Tryd.prog W 0 sp true 26 (.slice A len cap) d p) :
    ∃ l : List UInt8, l.length = len ∧ Lies W W.heap.size A (cells (nums l)) ∧ (A = none → cap = 0) ∧ (l.length : Int) ≤ 9223372036854775807 := by
  obtain ⟨fuel, hf⟩ := h
  rcases open_ints Tryd.underlying26 Tryd.underlying5 cellsB hf with ⟨hcs, _⟩ | ⟨a, l, c, zs, hcs, _, hl, hm, hz, _, hcell, hwf⟩
  · simp [Value.cells] at hcs
    obtain ⟨rfl, rfl, rfl⟩ := hcs
    exact ⟨[], rfl, Lies.nil, fun _ => rfl, by simp⟩
  · simp [Value.cells] at hcs
    obtain ⟨rfl, rfl, rfl⟩ := hcs
    have hle : len ≤ zs.length := by rw [hz]; split <;> omega
    have hlen : (zs.take len).length = len := by rw [List.length_take]; omega
    obtain ⟨bs, hbs⟩ := nums_ex (zs.take len) (fun d hd => by
      have w0 := hwf d (List.mem_of_mem_take hd)
      simpa [Lit.wf, IntKind.min, IntKind.max, IntKind.signed, IntKind.bits] using w0)
    have hbl : bs.length = len := by rw [← nums_length, hbs, hlen]
    unfold maxLen at hm
    refine ⟨bs, hbl, ?_, (fun e => by cases e), by rw [hbl]; omega⟩
    rw [hbs]
    exact ints_lie hle hcell
/-- The parts of an instruction. -/
theorem open_parts {n : Nat} {v0 v1 v2 v3 : Value} {y0 y1 y2 y3 : DataW H × List MemPlace}
    (h0 : DataW.trod enc Tryd.prog W 0 sp true n 5 [v0] = some y0) (h1 : DataW.trod enc Tryd.prog W 0 sp true n 22 [v1] = some y1) (h2 : DataW.trod enc Tryd.prog W 0 sp true n 22 [v2] = some y2) (h3 : DataW.trod enc Tryd.prog W 0 sp true n 23 [v3] = some y3) :
    ∃ (i : I) (A : Option Addr) (c : Nat), v0 = .int .u8 i.op.toNat ∧ v1 = .int .u64 i.a ∧ v2 = .int .u64 i.b ∧ v3 = .slice A i.l.length c ∧ i.Ok ∧ LiesL W A i.l ∧ (i.l.length : Int) ≤ 9223372036854775807 := by
  obtain ⟨x0, e0, _, w0⟩ := DataW.trod_int Tryd.underlying5 h0
  obtain ⟨x1, e1, _, w1⟩ := DataW.trod_int Tryd.underlying22 h1
  obtain ⟨x2, e2, _, w2⟩ := DataW.trod_int Tryd.underlying22 h2
  obtain ⟨A, c, l, e3, hl, hn, hm⟩ := open_labels h3
  simp only [List.cons.injEq, and_true] at e0 e1 e2
  have b0 : 0 ≤ x0 ∧ x0 ≤ 255 := by simpa [Lit.wf, IntKind.min, IntKind.max, IntKind.signed, IntKind.bits] using w0
  have b1 : 0 ≤ x1 ∧ x1 ≤ 18446744073709551615 := by simpa [Lit.wf, IntKind.min, IntKind.max, IntKind.signed, IntKind.bits] using w1
  have b2 : 0 ≤ x2 ∧ x2 ≤ 18446744073709551615 := by simpa [Lit.wf, IntKind.min, IntKind.max, IntKind.signed, IntKind.bits] using w2
  exact ⟨⟨UInt8.ofNat x0.toNat, x1, x2, l⟩, A, c, by rw [e0, u8_of b0.1 b0.2], e1, e2, e3, ⟨b1.1, b1.2, b2.1, b2.2, hn⟩, hl, hm⟩
theorem open_ins {b0 : Nat} {r : Reach} {v : Value} {d : DataW H} {p : List MemPlace} (hv : Value.okWide Tryd.prog W r b0 25 v) (h : DataW.Trod enc Tryd.prog W 0 sp true 25 v d p) :
    ∃ (i : I) (A : Option Addr) (c : Nat), v = insV i A c ∧ i.Ok ∧ LiesL W A i.l ∧ (i.l.length : Int) ≤ 9223372036854775807 := by
  obtain ⟨v0, v1, v2, v3, y0, y1, y2, y3, n, rfl, _, _, h0, h1, h2, h3⟩ := open_agg4 Tryd.underlying25 (by kernel_rfl) (by kernel_rfl) hv h
  obtain ⟨i, A, c, rfl, rfl, rfl, rfl, ho, hl, hn⟩ := open_parts h0 h1 h2 h3
  exact ⟨i, A, c, rfl, ho, hl, hn⟩
end
end Go.Proofs.YtlicdmbmgjflpaaDoor

/- A slice of instructions, opened. -/
namespace Go.Proofs.YtlicdmbmgjflpaaDoor
open Go.ChangeShapes Go.WideShapes Go.ChangeAt Go.RowKit Go.Joins Go.Deep
set_option linter.unusedVariables false
set_option maxRecDepth 100000

theorem cellsI : Tryd.prog.cellsOf 25 = 4 := by kernel_rfl
section
variable {H : Type} {enc : TypeId × Value → H} {W : World} {sp : Nat → Bool}
/-- One element: its four cells, each with its reading. -/
theorem open_elem {n : Nat} {cs : List Value} {x : DataW H × List MemPlace} (h : DataW.trod enc Tryd.prog W 0 sp true n 25 cs = some x) (hc : cs.length = 4) :
    ∃ (i : I) (B : Option Addr) (c : Nat), cs = [.int .u8 i.op.toNat, .int .u64 i.a, .int .u64 i.b, .slice B i.l.length c] ∧ i.Ok ∧ LiesL W B i.l ∧ (i.l.length : Int) ≤ 9223372036854775807 := by
  obtain ⟨ys, m, _, hy, hlen, hyl, hf⟩ := DataW.trod_struct Tryd.underlying25 h
  match cs, hc with
  | [c0, c1, c2, c3], _ =>
    match ys, hyl with
    | [y0, y1, y2, y3], _ =>
      have e1 : Tryd.prog.cellsOf 5 = 1 := by kernel_rfl
      have e2 : Tryd.prog.cellsOf 22 = 1 := by kernel_rfl
      have e3 : Tryd.prog.cellsOf 23 = 1 := by kernel_rfl
      have h0 : DataW.trod enc Tryd.prog W 0 sp true m 5 (([c0, c1, c2, c3].drop 0).take (Tryd.prog.cellsOf 5)) = some y0 := hf 0 _ rfl
      have h1 : DataW.trod enc Tryd.prog W 0 sp true m 22 (([c0, c1, c2, c3].drop 1).take (Tryd.prog.cellsOf 22)) = some y1 := hf 1 _ rfl
      have h2 : DataW.trod enc Tryd.prog W 0 sp true m 22 (([c0, c1, c2, c3].drop 2).take (Tryd.prog.cellsOf 22)) = some y2 := hf 2 _ rfl
      have h3 : DataW.trod enc Tryd.prog W 0 sp true m 23 (([c0, c1, c2, c3].drop 3).take (Tryd.prog.cellsOf 23)) = some y3 := hf 3 _ rfl
      rw [e1] at h0
      rw [e2] at h1 h2
      rw [e3] at h3
      obtain ⟨i, B, c, rfl, rfl, rfl, rfl, ho, hl, hn⟩ := open_parts h0 h1 h2 h3
      exact ⟨i, B, c, rfl, ho, hl, hn⟩
theorem open_list {A : Option Addr} {len cap : Nat} {d : DataW H} {p : List MemPlace} (h : DataW.Trod enc Tryd.prog W 0 sp true 40 (.slice A len cap) d p) :
    ∃ l : List I, l.length = len ∧ (Ins W A l ∧ ∀ i ∈ l, i.Ok ∧ (i.l.length : Int) ≤ 9223372036854775807) ∧ (l.length : Int) ≤ 9223372036854775807 := by
  obtain ⟨fuel, hf⟩ := h
  rcases open_slice Tryd.underlying40 hf with ⟨hcs, _⟩ | ⟨a, ln, cp, m, n, D, Pl, hcs, hb, hl, hm, hmm, hx, hi⟩
  · simp [Value.cells] at hcs
    obtain ⟨rfl, rfl, rfl⟩ := hcs
    exact ⟨[], rfl, ⟨(fun j i hi => by cases hi), (fun i hi => by cases hi)⟩, by simp⟩
  · simp [Value.cells] at hcs
    obtain ⟨rfl, rfl, rfl⟩ := hcs
    have hlm : len ≤ m := by rw [hmm]; split <;> omega
    have each : ∀ j, j < len → ∃ (i : I) (B : Option Addr) (c : Nat), (W.cell? (a.add (j * 4)) = some (.int .u8 i.op.toNat) ∧ W.cell? ((a.add (j * 4)).add 1) = some (.int .u64 i.a) ∧ W.cell? ((a.add (j * 4)).add 2) = some (.int .u64 i.b) ∧ W.cell? ((a.add (j * 4)).add 3) = some (.slice B i.l.length c)) ∧ i.Ok ∧ LiesL W B i.l ∧ (i.l.length : Int) ≤ 9223372036854775807 := by
      intro j hj
      obtain ⟨cs', hc, ht'⟩ := hi j (by omega)
      rw [cellsI] at hc
      obtain ⟨_, hcl, hat⟩ := World.cells?_some hc
      obtain ⟨i, B, c, rfl, ho, hli, hn⟩ := open_elem ht' hcl
      have q0 := hat 0 (by omega)
      have q1 := hat 1 (by omega)
      have q2 := hat 2 (by omega)
      have q3 := hat 3 (by omega)
      exact ⟨i, B, c, ⟨by simpa [Addr.add] using q0, q1, q2, q3⟩, ho, hli, hn⟩
    have pick : ∀ k, k ≤ len → ∃ l : List I, l.length = k ∧ ∀ j i, l[j]? = some i → ∃ (B : Option Addr) (c : Nat), (W.cell? (a.add (j * 4)) = some (.int .u8 i.op.toNat) ∧ W.cell? ((a.add (j * 4)).add 1) = some (.int .u64 i.a) ∧ W.cell? ((a.add (j * 4)).add 2) = some (.int .u64 i.b) ∧ W.cell? ((a.add (j * 4)).add 3) = some (.slice B i.l.length c)) ∧ i.Ok ∧ LiesL W B i.l ∧ (i.l.length : Int) ≤ 9223372036854775807 := by
      intro k
      induction k with
      | zero => intro _; exact ⟨[], rfl, fun j i hi => by cases hi⟩
      | succ k ih =>
        intro hk
        obtain ⟨l, hl1, hl2⟩ := ih (by omega)
        obtain ⟨i, B, c, hq⟩ := each k (by omega)
        refine ⟨l ++ [i], by simp [hl1], fun j i' hi' => ?_⟩
        rcases Nat.lt_or_ge j k with g | g
        · rw [List.getElem?_append_left (by omega)] at hi'
          exact hl2 j i' hi'
        · have hj : j < (l ++ [i]).length := (List.getElem?_eq_some_iff.1 hi').1
          rw [List.length_append, List.length_singleton] at hj
          obtain rfl : j = k := by omega
          rw [List.getElem?_append_right (by omega), hl1, Nat.sub_self] at hi'
          injection hi' with hi'
          subst hi'
          exact ⟨B, c, hq⟩
    obtain ⟨l, hl1, hl2⟩ := pick len (Nat.le_refl _)
    unfold maxLen at hm
    refine ⟨l, hl1, ⟨fun j i hij => ?_, fun i him => ?_⟩, by omega⟩
    · obtain ⟨B, c, ⟨q0, q1, q2, q3⟩, _, hli, _⟩ := hl2 j i hij
      have hj0 := (List.getElem?_eq_some_iff.1 hij).1
      obtain ⟨_, _, ⟨q00, _, _, _⟩, _⟩ := hl2 0 _ (List.getElem?_eq_getElem (by omega : 0 < l.length))
      obtain ⟨b, off, spot⟩ := a
      have hsp : spot = none := by simpa [Addr.add] using World.cell?_spot q00
      subst hsp
      rw [Go.WideShapes.add_plain] at q0 q1 q2 q3
      rw [Go.WideShapes.add_plain] at q1 q2 q3
      exact ⟨b, off, B, c, rfl, block_lt_of_cell q0, ⟨q0, q1, q2, q3⟩, hli⟩
    · obtain ⟨j, hj⟩ := List.getElem?_of_mem him
      obtain ⟨B, c, _, ho, _, hn⟩ := hl2 j i hj
      exact ⟨ho, hn⟩
end
end Go.Proofs.YtlicdmbmgjflpaaDoor

/- What the rows list of the tables of package ops, as the walks want it; a world that holds them. -/
namespace Go.Proofs.YtlicdmbmgjflpaaDoor
set_option linter.unusedVariables false
open Go.Shelf Go.Lib

/-- What the rows list. -/
def listed : List (String × DataW Unit) := [("creel/ops.controlNames", Rows.laid_creel_ops_controlNames), ("creel/ops.memoryNames", Rows.laid_creel_ops_memoryNames), ("creel/ops.testNames", Rows.laid_creel_ops_testNames), ("creel/ops.numberNames", Rows.laid_creel_ops_numberNames), ("creel/ops.convertNames", Rows.laid_creel_ops_convertNames), ("creel/ops.accesses", Rows.laid_creel_ops_accesses)]
theorem listed_plain (W : World) : laidMetH Tryd.prog listed W = laidMet Tryd.prog listed W := Go.MakeChecks.laidMetH_plain _ _ _ (by kernel_rfl)

theorem cInt : Tryd.prog.cellsOf 3 = 1 := by kernel_rfl
theorem cBool : Tryd.prog.cellsOf 4 = 1 := by kernel_rfl
theorem cByte : Tryd.prog.cellsOf 5 = 1 := by kernel_rfl
theorem cStr : Tryd.prog.cellsOf 9 = 1 := by kernel_rfl
theorem cAcc : Tryd.prog.cellsOf 116 = 4 := by kernel_rfl

/-- A list cut into pieces of n. -/
theorem pieces {α : Type} (n : Nat) (g : α → List Value) : ∀ (l : List α) (L : List Value), L.length = l.length * n → (∀ k a, l[k]? = some a → (L.drop (k * n)).take n = g a) → L = l.flatMap g
  | [], L, hl, _ => List.eq_nil_of_length_eq_zero (by simpa using hl)
  | x :: r, L, hl, h => by
    have h0 := h 0 x rfl
    rw [Nat.zero_mul, List.drop_zero] at h0
    have hr := pieces n g r (L.drop n) (by rw [List.length_drop, hl, List.length_cons, Nat.add_mul]; omega) (fun k a hk => by
      have := h (k + 1) a hk
      rw [List.drop_drop, ← this]
      congr 2
      rw [Nat.add_mul]
      omega)
    rw [List.flatMap_cons, ← hr, ← h0, List.take_append_drop]

theorem map_flat {α : Type} (f : α → Value) : ∀ l : List α, l.map f = l.flatMap fun a => [f a]
  | [] => rfl
  | x :: r => by rw [List.map_cons, List.flatMap_cons, map_flat f r]; rfl
section
variable {H : Type} {enc : TypeId × Value → H} {w : World} {base : Nat} {sp : Nat → Bool} {held : Bool} {fuel : Nat}
theorem strs_of {t : TypeId} {n : Nat} {cs : Array Value} {l : List (List UInt8)} {p : List MemPlace} (ht : Tryd.prog.underlying t = some (.array n 9)) (hc : Tryd.prog.cellsOf t = n) (hn : l.length = n)
    (h : DataW.trod enc Tryd.prog w base sp held fuel t cs.toList = some (.agg (l.map fun s => .lit (.string s)), p)) : cs = strs l := by
  obtain ⟨_, _, _, _, hl, _, _⟩ := DataW.trod_array ht h
  apply Array.toList_inj.1
  have e : (strs l).toList = l.flatMap fun s => [.string (S s)] := by
    show l.map _ = _
    exact map_flat _ l
  rw [e]
  refine pieces 1 _ l cs.toList (by omega) (fun k a hk => ?_)
  obtain ⟨hk', rfl⟩ := List.getElem?_eq_some_iff.1 hk
  obtain ⟨f, d, q, h1, h2⟩ := array_elem ht h k (by omega)
  rw [cStr] at h2
  obtain ⟨s, hs, he, _⟩ := DataW.trod_string Tryd.underlying9 h2
  rw [hs]
  rw [List.getElem?_map, hk] at h1
  simp only [Option.map_some, Option.some.injEq] at h1
  rw [Prod.mk.injEq] at he
  rw [← h1] at he
  have e2 : l[k] = s.data.toList := by simpa using he.1
  rw [e2, S_of]
set_option maxRecDepth 100000 in
/-- A part of the table of accesses. -/
theorem quad_of {cs : List Value} {a : AccR} {p : List MemPlace}
    (h : DataW.trod enc Tryd.prog w base sp held fuel 116 cs = some (.agg [.lit (.int .i64 a.n), .lit (.int .u8 a.t), .lit (.bool a.wr), .lit (.bool a.sg)], p)) : cs = [.int .i64 a.n, .int .u8 a.t, .bool a.wr, .bool a.sg] := by
  obtain ⟨xs, m, rfl, hx, hl, hxl, hall⟩ := DataW.trod_struct Tryd.underlying116 h
  rw [cAcc] at hl
  have h0 : DataW.trod enc Tryd.prog w base sp held m 3 ((cs.drop 0).take (Tryd.prog.cellsOf 3)) = xs[0]? := hall 0 _ rfl
  have h1 : DataW.trod enc Tryd.prog w base sp held m 5 ((cs.drop 1).take (Tryd.prog.cellsOf 5)) = xs[1]? := hall 1 _ rfl
  have h2 : DataW.trod enc Tryd.prog w base sp held m 4 ((cs.drop 2).take (Tryd.prog.cellsOf 4)) = xs[2]? := hall 2 _ rfl
  have h3 : DataW.trod enc Tryd.prog w base sp held m 4 ((cs.drop 3).take (Tryd.prog.cellsOf 4)) = xs[3]? := hall 3 _ rfl
  rw [cInt] at h0
  rw [cByte] at h1
  rw [cBool] at h2 h3
  match xs, hxl, cs, hl with
  | [x0, x1, x2, x3], _, [u0, u1, u2, u3], _ =>
    simp only [List.map_cons, List.map_nil, Prod.mk.injEq, DataW.agg.injEq, List.cons.injEq, and_true] at hx
    obtain ⟨⟨e0, e1, e2, e3⟩, _⟩ := hx
    simp only [List.drop_zero, List.drop_succ_cons, List.getElem?_cons_zero, List.getElem?_cons_succ, List.take_succ_cons, List.take_zero] at h0 h1 h2 h3
    obtain ⟨z0, y0, rfl, _⟩ := DataW.trod_int Tryd.underlying3 h0
    obtain ⟨z1, y1, rfl, _⟩ := DataW.trod_int Tryd.underlying5 h1
    obtain ⟨z2, y2, rfl⟩ := DataW.trod_bool Tryd.underlying4 h2
    obtain ⟨z3, y3, rfl⟩ := DataW.trod_bool Tryd.underlying4 h3
    have e0' : (a.n : Int) = z0 := by simpa using e0
    have e1' : (a.t : Int) = z1 := by simpa using e1
    have e2' : a.wr = z2 := by simpa using e2
    have e3' : a.sg = z3 := by simpa using e3
    rw [e0', e1', e2', e3']
    have y0' : u0 = .int .i64 z0 := by simpa using y0
    have y1' : u1 = .int .u8 z1 := by simpa using y1
    have y2' : u2 = .bool z2 := by simpa using y2
    have y3' : u3 = .bool z3 := by simpa using y3
    rw [y0', y1', y2', y3']
theorem acc_of {t : TypeId} {n : Nat} {cs : Array Value} {l : List AccR} {p : List MemPlace} (ht : Tryd.prog.underlying t = some (.array n 116)) (hc : Tryd.prog.cellsOf t = n * 4) (hn : l.length = n)
    (h : DataW.trod enc Tryd.prog w base sp held fuel t cs.toList = some (.agg (l.map fun a => .agg [.lit (.int .i64 a.n), .lit (.int .u8 a.t), .lit (.bool a.wr), .lit (.bool a.sg)]), p)) : cs = accCells l := by
  obtain ⟨_, _, _, _, hl, _, _⟩ := DataW.trod_array ht h
  apply Array.toList_inj.1
  show cs.toList = l.flatMap _
  refine pieces 4 _ l cs.toList (by omega) (fun k a hk => ?_)
  obtain ⟨hk', rfl⟩ := List.getElem?_eq_some_iff.1 hk
  obtain ⟨f, d, q, h1, h2⟩ := array_elem ht h k (by omega)
  rw [cAcc] at h2
  rw [List.getElem?_map, hk] at h1
  simp only [Option.map_some, Option.some.injEq] at h1
  subst h1
  exact quad_of h2
end
theorem heap_of {W : World} {x : String} {g : Nat} {cs : Array Value} (hg : Tryd.prog.globalNamed x = some g) (hv : W.var? Tryd.prog x = some cs) : ∃ t fr, W.heap[g]? = some (.cells cs t fr) := by
  simp only [World.var?, hg, Option.bind_some] at hv
  split at hv
  · rename_i c t fr hb
    cases hv
    exact ⟨t, fr, hb⟩
  · cases hv
theorem n0 : Tryd.prog.globalNamed "creel/ops.controlNames" = some 0 := by kernel_rfl
theorem y0 : (Tryd.prog.globals[0]?).map (·.type) = some 109 := by kernel_rfl
theorem d0 : (Rows.laid_creel_ops_controlNames : DataW Unit) = .agg (tab0.map fun s => .lit (.string s)) := by kernel_rfl
theorem t0 {W : World} (h : laidMet Tryd.prog listed W) : ∃ t fr, W.heap[0]? = some (.cells (strs tab0) t fr) := by
  obtain ⟨g, t, cs, fuel, p, hg, hty, hvar, hd⟩ := Lib.laidMet.reads h (show ("creel/ops.controlNames", Rows.laid_creel_ops_controlNames) ∈ listed from .head _)
  obtain rfl := Option.some.inj (n0.symm.trans hg)
  obtain rfl := Option.some.inj (y0.symm.trans hty)
  rw [d0] at hd
  obtain rfl := strs_of Tryd.underlying109 (by kernel_rfl) (by kernel_rfl) hd
  exact heap_of n0 hvar
theorem n1 : Tryd.prog.globalNamed "creel/ops.memoryNames" = some 1 := by kernel_rfl
theorem y1 : (Tryd.prog.globals[1]?).map (·.type) = some 110 := by kernel_rfl
theorem d1 : (Rows.laid_creel_ops_memoryNames : DataW Unit) = .agg (tab1.map fun s => .lit (.string s)) := by kernel_rfl
theorem t1 {W : World} (h : laidMet Tryd.prog listed W) : ∃ t fr, W.heap[1]? = some (.cells (strs tab1) t fr) := by
  obtain ⟨g, t, cs, fuel, p, hg, hty, hvar, hd⟩ := Lib.laidMet.reads h (show ("creel/ops.memoryNames", Rows.laid_creel_ops_memoryNames) ∈ listed from .tail _ (.head _))
  obtain rfl := Option.some.inj (n1.symm.trans hg)
  obtain rfl := Option.some.inj (y1.symm.trans hty)
  rw [d1] at hd
  obtain rfl := strs_of Tryd.underlying110 (by kernel_rfl) (by kernel_rfl) hd
  exact heap_of n1 hvar
theorem n2 : Tryd.prog.globalNamed "creel/ops.testNames" = some 2 := by kernel_rfl
theorem y2 : (Tryd.prog.globals[2]?).map (·.type) = some 111 := by kernel_rfl
theorem d2 : (Rows.laid_creel_ops_testNames : DataW Unit) = .agg (tab2.map fun s => .lit (.string s)) := by kernel_rfl
theorem t2 {W : World} (h : laidMet Tryd.prog listed W) : ∃ t fr, W.heap[2]? = some (.cells (strs tab2) t fr) := by
  obtain ⟨g, t, cs, fuel, p, hg, hty, hvar, hd⟩ := Lib.laidMet.reads h (show ("creel/ops.testNames", Rows.laid_creel_ops_testNames) ∈ listed from .tail _ (.tail _ (.head _)))
  obtain rfl := Option.some.inj (n2.symm.trans hg)
  obtain rfl := Option.some.inj (y2.symm.trans hty)
  rw [d2] at hd
  obtain rfl := strs_of Tryd.underlying111 (by kernel_rfl) (by kernel_rfl) hd
  exact heap_of n2 hvar
theorem n3 : Tryd.prog.globalNamed "creel/ops.numberNames" = some 3 := by kernel_rfl
theorem y3 : (Tryd.prog.globals[3]?).map (·.type) = some 112 := by kernel_rfl
theorem d3 : (Rows.laid_creel_ops_numberNames : DataW Unit) = .agg (tab3.map fun s => .lit (.string s)) := by kernel_rfl
theorem t3 {W : World} (h : laidMet Tryd.prog listed W) : ∃ t fr, W.heap[3]? = some (.cells (strs tab3) t fr) := by
  obtain ⟨g, t, cs, fuel, p, hg, hty, hvar, hd⟩ := Lib.laidMet.reads h (show ("creel/ops.numberNames", Rows.laid_creel_ops_numberNames) ∈ listed from .tail _ (.tail _ (.tail _ (.head _))))
  obtain rfl := Option.some.inj (n3.symm.trans hg)
  obtain rfl := Option.some.inj (y3.symm.trans hty)
  rw [d3] at hd
  obtain rfl := strs_of Tryd.underlying112 (by kernel_rfl) (by kernel_rfl) hd
  exact heap_of n3 hvar
theorem n4 : Tryd.prog.globalNamed "creel/ops.convertNames" = some 4 := by kernel_rfl
theorem y4 : (Tryd.prog.globals[4]?).map (·.type) = some 113 := by kernel_rfl
theorem d4 : (Rows.laid_creel_ops_convertNames : DataW Unit) = .agg (tab4.map fun s => .lit (.string s)) := by kernel_rfl
theorem t4 {W : World} (h : laidMet Tryd.prog listed W) : ∃ t fr, W.heap[4]? = some (.cells (strs tab4) t fr) := by
  obtain ⟨g, t, cs, fuel, p, hg, hty, hvar, hd⟩ := Lib.laidMet.reads h (show ("creel/ops.convertNames", Rows.laid_creel_ops_convertNames) ∈ listed from .tail _ (.tail _ (.tail _ (.tail _ (.head _)))))
  obtain rfl := Option.some.inj (n4.symm.trans hg)
  obtain rfl := Option.some.inj (y4.symm.trans hty)
  rw [d4] at hd
  obtain rfl := strs_of Tryd.underlying113 (by kernel_rfl) (by kernel_rfl) hd
  exact heap_of n4 hvar
theorem n5 : Tryd.prog.globalNamed "creel/ops.accesses" = some 5 := by kernel_rfl
theorem y5 : (Tryd.prog.globals[5]?).map (·.type) = some 131 := by kernel_rfl
theorem d5 : (Rows.laid_creel_ops_accesses : DataW Unit) = .agg (tabA.map fun a => .agg [.lit (.int .i64 a.n), .lit (.int .u8 a.t), .lit (.bool a.wr), .lit (.bool a.sg)]) := by kernel_rfl
theorem t5 {W : World} (h : laidMet Tryd.prog listed W) : ∃ t fr, W.heap[5]? = some (.cells (accCells tabA) t fr) := by
  obtain ⟨g, t, cs, fuel, p, hg, hty, hvar, hd⟩ := Lib.laidMet.reads h (show ("creel/ops.accesses", Rows.laid_creel_ops_accesses) ∈ listed from .tail _ (.tail _ (.tail _ (.tail _ (.tail _ (.head _))))))
  obtain rfl := Option.some.inj (n5.symm.trans hg)
  obtain rfl := Option.some.inj (y5.symm.trans hty)
  rw [d5] at hd
  obtain rfl := acc_of Tryd.underlying131 (by kernel_rfl) (by kernel_rfl) hd
  exact heap_of n5 hvar
theorem tabs_of {W : World} (h : laidMetH Tryd.prog listed W) : Tabs W := by
  rw [listed_plain] at h
  exact ⟨t0 h, t1 h, t2 h, t3 h, t4 h, t5 h⟩

/-- The settled world, the tables laid. -/
noncomputable def laidWorld (os : Os) : World :=
  let w0 := World.holding Tryd.prog os ⟨#[], #[], []⟩
  let put (h : Array Obj) (g : Nat) (cs : Array Value) : Array Obj := h.modify g fun
    | .cells _ t frozen => .cells cs t frozen
    | o => o
  let h0 := put w0.heap 0 (strs tab0)
  let h1 := put h0 1 (strs tab1)
  let h2 := put h1 2 (strs tab2)
  let h3 := put h2 3 (strs tab3)
  let h4 := put h3 4 (strs tab4)
  { w0 with heap := put h4 5 (accCells tabA) }
theorem laidWorld_met (os : Os) (args : Array Value) : laidMetH Tryd.prog listed ((laidWorld os).forCall (fun _ _ => 0) ⟨#[], args, []⟩).memory := by
  rw [listed_plain]
  exact (LaidIn.of_run (l := listed) [0, 1, 2, 3, 4, 5] 8 (by kernel_rfl) (by kernel_rfl) (by kernel_rfl) (by kernel_rfl)).met
end Go.Proofs.YtlicdmbmgjflpaaDoor
