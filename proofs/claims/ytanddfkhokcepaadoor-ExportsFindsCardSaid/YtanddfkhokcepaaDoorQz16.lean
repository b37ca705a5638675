/- awake; the walk of ExportsFinds. -/
import Derived.Test.YtanddfkhokcepaaDoorQz15
import Derived.Test.YtanddfkhokcepaaDoorQz14
import Derived.Test.YtanddfkhokcepaaDoorQz05
import Derived.Test.YtanddfkhokcepaaDoorQz08
namespace Go.Proofs.YtanddfkhokcepaaDoor
open Go.RowKit
set_option linter.unusedVariables false
set_option maxRecDepth 100000

/-- The chapter's example. -/
def exE : Ex := ⟨[102], 0, 3⟩
theorem exE_right : rE exE = 0 := by decide +kernel
theorem exE_put : eputL exE = [1, 102, 0, 3] := by
  have e1 : lebL (exE.nam.length : Int) = [1] := lebL_sm 1 (by omega) (by omega)
  have e3 : lebL (exE.idx.toNat : Int) = [3] := lebL_sm 3 (by omega) (by omega)
  unfold eputL nmL
  rw [e1, e3]
  rfl
theorem awake_ex (w : World) (hT : Tabs w) : Calls Tryd.prog 37 #[] w fun e w' => e = .returned (.bool true) ∧ Below w.heap.size w w' := by
  have hp := put_ex exE w hT (by decide)
  obtain ⟨l, hl⟩ : ∃ l : List UInt8, l = [1, 102, 0, 3] := ⟨_, rfl⟩
  have HP := Lib.hid (show Calls Tryd.prog 39 #[.agg #[.string { data := #[102] }, .int .u8 0, .int .u32 3]] w fun e w' => ∃ v, e = .returned (.tuple #[v, .int .i64 0]) ∧ Row w' w.heap.size v l ∧ Below w.heap.size w w' from hp.mono fun e w' ⟨v, h1, h2, h3⟩ => ⟨v, by rw [exE_right] at h1; exact h1, by rw [if_pos exE_right, exE_put] at h2; rw [hl]; exact h2, h3⟩)
  have hcmp : ((S l).toList == [1, 102, 0, 3]) = true := by rw [S_toList, hl]; rfl
  clear hl
  clear hp hT
  go_enter Tryd.func37, Tryd.ntmps37
  go_wp2_with (go_at_call 39; go_must ((with_reducible refine HP.out.mono ?_); intro e w1 h; obtain ⟨v, rfl, hr, hb⟩ := h; obtain ⟨A, c, rfl, hcv⟩ := hr.str; have hcv2 := hcv 9 Tryd.underlying9; have HB := Lib.hid hb; clear hb hr hcv))
  go_ret
  exact ⟨rfl, HB.out⟩
/-- Where the first of a name stands. -/
def fdN (nm : List UInt8) (i : Nat) : List Ex → Option Nat
  | [] => none
  | x :: r => if x.nam = nm then some i else fdN nm (i + 1) r
theorem fdN_drop {nm : List UInt8} {l : List Ex} {k : Nat} {x : Ex} (h : l[k]? = some x) (i : Nat) : fdN nm i (l.drop k) = if x.nam = nm then some i else fdN nm (i + 1) (l.drop (k + 1)) := by
  obtain ⟨h1, h2⟩ := List.getElem?_eq_some_iff.1 h
  rw [List.drop_eq_getElem_cons h1, h2]
  rfl
/-- The two tell the same. -/
theorem fd_both (nm : List UInt8) : ∀ (r : List Ex) (i : Nat), (fdN nm i r = none ∧ fdE nm r = none) ∨ ∃ j x, fdN nm i r = some (i + j) ∧ r[j]? = some x ∧ fdE nm r = some x
  | [], _ => .inl ⟨rfl, rfl⟩
  | y :: r, i => by
    by_cases h : y.nam = nm
    · exact .inr ⟨0, y, by simp [fdN, h], rfl, by simp [fdE, h]⟩
    · rcases fd_both nm r (i + 1) with ⟨h1, h2⟩ | ⟨j, x, h1, h2, h3⟩
      · exact .inl ⟨by simp [fdN, h, h1], by simp [fdE, h, h2]⟩
      · refine .inr ⟨j + 1, x, ?_, by simpa using h2, by simp [fdE, h, h3]⟩
        simp [fdN, h, h1]
        omega
theorem fdV_none : fdV none = .tuple #[.agg #[.string { data := #[] }, .int .u8 0, .int .u32 0], .bool false] := rfl
theorem fdV_some (x : Ex) : fdV (some x) = .tuple #[exV x, .bool true] := rfl
theorem twV_none : twV none = .tuple #[.string { data := #[] }, .bool false] := rfl
theorem twV_some (s : List UInt8) : twV (some s) = .tuple #[.string (S s), .bool true] := rfl
theorem twZ_none : twZ none = -1 := rfl
theorem twZ_some (k : Nat) : twZ (some k) = k := rfl
set_option maxHeartbeats 8000000 in
theorem lawXF {w : World} {A : Option Addr} {c : Nat} {l : List Ex} (kd : Int) (nm : List UInt8) (hl : Exs w A l) (hT : Tabs w) (nl : (l.length : Int) ≤ 9223372036854775807) (hf : FitsE l) :
    Calls Tryd.prog 9 #[.slice A l.length c, .int .u8 kd, .string (S nm)] w fun e w' => e = .returned (.bool true) ∧ Below w.heap.size w w' := by
  have HAW := Lib.hid (awake_ex w hT)
  have HL := Lib.hid hl
  have HF := Lib.hid hf
  clear hl hT hf
  by_cases g1 : 40 < l.length
  · have t1 : decide ((40 : Int) < (l.length : Int)) = true := decide_eq_true (by omega)
    clear g1
    go_enter Tryd.func9, Tryd.ntmps9
    go_wp2_with (go_at_call 37; go_must ((with_reducible refine HAW.out.mono ?_); rintro e w1 ⟨rfl, hb⟩; have H1 := Lib.hid hb; clear hb))
    go_ret
    exact ⟨rfl, H1.out⟩
  have t1 : decide ((40 : Int) < (l.length : Int)) = false := decide_eq_false (by omega)
  obtain ⟨n, hn⟩ : ∃ n, n = l.length := ⟨_, rfl⟩
  have HN := Lib.hid hn
  have HE := Lib.hid (show l.drop n = [] by rw [hn, List.drop_length])
  have HFD := Lib.hid (fun W (h : Exs W A l) => find_ex (c := c) nm h (by omega))
  have HTW := Lib.hid (fun W (h : Exs W A l) => twice_ex (c := c) h (by omega) HF.out)
  have HRT := Lib.hid (fun W (h : Exs W A l) => rtwice_ex (c := c) h (by omega))
  have HNM := Lib.hid (fun W (h : Exs W A l) => names_ex (c := c) kd h (by omega))
  have HRN := Lib.hid (fun W (h : Exs W A l) => rnames_ex (c := c) kd h (by omega))
  have hk := nmsK_len kd l l.length
  rw [List.take_length] at hk
  have HST := Lib.hid (fun W A1 c1 A2 c2 (h1 : SlT W A1 (nmsK kd l)) (h2 : SlT W A2 (nmsK kd l)) => same_texts (c := c1) (c2 := c2) h1 h2 rfl (by omega))
  have hfd := fd_both nm l 0
  have htw := tw_both l [] 0
  simp only [Nat.zero_add] at hfd htw
  rw [← hn] at HFD HTW HRT HNM HRN t1 nl g1 ⊢
  have h40 : n ≤ 40 := by omega
  clear hk hn g1 HF
  have HBO := Lib.hid hfd
  have HBT := Lib.hid htw
  clear hfd htw
  go_enter Tryd.func9, Tryd.ntmps9
  go_wp2_with (go_at_call 37; go_must ((with_reducible refine HAW.out.mono ?_); rintro e w1 ⟨rfl, hb⟩; have H1 := Lib.hid hb; clear hb))
  clear HAW
  go_loopw [7, 8] (fun at_ i wr => ∃ k : Nat, k ≤ n ∧ i = .int .i64 ((k : Int) - 1) ∧ at_ = .int .i64 (twZ (fdN nm k (l.drop k))) ∧ Below w.heap.size w wr) (fun _ i _ => (intOf i + 1).toNat)
  case atStart => exact ⟨n, Nat.le_refl _, by go_num, by rw [HE.out]; rfl, H1.out⟩
  case round =>
    obtain ⟨k, hk, hi, rfl, hb⟩ := hrel
    cases k with
    | succ k =>
      have e1 : (((k + 1 : Nat) : Int) - 1) = k := by omega
      rw [e1] at hi
      subst hi
      clear e1
      have hlt : k < n := by omega
      obtain ⟨x, hx⟩ : ∃ x, l[k]? = some x := ⟨_, List.getElem?_eq_getElem (by rw [← HN.out]; exact hlt)⟩
      obtain ⟨b, off, rfl, hbl, m0, m1, m2⟩ := (HL.out.below hb).three hx
      have hst := fdN_drop (nm := nm) hx k
      have HB := Lib.hid hb
      by_cases e : x.nam = nm
      · rw [if_pos e] at hst
        have HST2 := Lib.hid hst
        have d1 : ((S x.nam).toList == (S nm).toList) = true := by rw [S_beqM, decide_eq_true e]
        clear e hst hb hx
        generalize fdN nm (k + 1) (l.drop (k + 1)) = z at *
        go_wp2
        go_roundw
        case rel => exact ⟨k, by omega, by go_num, by rw [HST2.out, twZ_some], HB.out⟩
        case measure => simp [intOf]
      · rw [if_neg e] at hst
        have HST2 := Lib.hid hst
        have d1 : ((S x.nam).toList == (S nm).toList) = false := by rw [S_beqM, decide_eq_false e]
        clear e hst hb hx
        generalize fdN nm (k + 1) (l.drop (k + 1)) = z at *
        go_wp2
        go_roundw
        case rel => exact ⟨k, by omega, by go_num, by rw [HST2.out], HB.out⟩
        case measure => simp [intOf]
    | zero =>
      have e1 : (((0 : Nat) : Int) - 1) = -1 := by omega
      rw [e1] at hi
      subst hi
      clear e1
      have HB := Lib.hid hb
      have HLA := Lib.hid (HL.out.below hb)
      have hfdw := HFD.out wr HLA.out
      have htww := fun W (h : Exs W A l) => HTW.out W h
      have hrtw := fun W (h : Exs W A l) => HRT.out W h
      rw [List.drop_zero]
      clear hb hk HFD HTW HRT H1
      rcases HBO.out with ⟨hf1, hf2⟩ | ⟨j, x, hf1, hf2, hf3⟩
      · rcases HBT.out with ⟨ht1, ht2⟩ | ⟨m, y, ht1, ht2, ht3⟩
        · rw [hf1, twZ_none]
          rw [hf2, fdV_none] at hfdw
          rw [ht1, twZ_none] at hrtw
          rw [ht2, twV_none] at htww
          have HFW := Lib.hid hfdw
          have HTW := Lib.hid htww
          have HRT := Lib.hid hrtw
          clear hfdw htww hrtw
          have he : ∀ W, (binOp BinOp.neq 78 (.agg #[.string { data := #[] }, .int .u8 0, .int .u32 0]) (.agg #[.string { data := #[] }, .int .u8 0, .int .u32 0])).run Tryd.prog W = .ok (.bool false) W := fun W => by have h := neq_ex exZ exZ W; rw [decide_eq_true rfl] at h; exact h
          clear hf1 hf2
          clear ht1 ht2
          go_upto_region 14 with (first
            | (go_at_call 51; go_must ((with_reducible refine HFW.out.mono ?_); rintro e w2 ⟨rfl, hb⟩; have HB2 := Lib.hid (HB.out.trans (hb.mono HB.out.size)); have HL2 := Lib.hid (HLA.out.below hb); clear hb))
            | (go_at_call 52; go_must ((with_reducible refine (HTW.out _ (HL2.out.below (below_box w2 (.cells #[.string { data := #[] }, .int .u8 0, .int .u32 0] 78)))).mono ?_); rintro e w3 ⟨rfl, hb⟩; have HX3 := Lib.hid ((Whole.made w2 78 #[.string { data := #[] }, .int .u8 0, .int .u32 0]).below hb); have HL3 := Lib.hid ((HL2.out.below (below_box w2 (.cells #[.string { data := #[] }, .int .u8 0, .int .u32 0] 78))).below hb); have HB3 := Lib.hid (HB2.out.trans (((below_box w2 (.cells #[.string { data := #[] }, .int .u8 0, .int .u32 0] 78)).trans (hb.mono (below_box w2 (.cells #[.string { data := #[] }, .int .u8 0, .int .u32 0] 78)).size)).mono HB2.out.size)); clear hb))
            | (go_at_call 53; go_must ((with_reducible refine (HRT.out _ HL3.out).mono ?_); rintro e w4 ⟨rfl, hb⟩; have HX4 := Lib.hid (HX3.out.below hb); have HL4 := Lib.hid (HL3.out.below hb); have HB4 := Lib.hid (HB3.out.trans (hb.mono HB3.out.size)); clear hb)))
          have z0 := HX4.out.cell 0
          have z1 := HX4.out.cell 1
          have z2 := HX4.out.cell 2
          simp only [List.getElem?_toArray, List.getElem?_cons_zero, List.getElem?_cons_succ] at z0 z1 z2
          clear HFW HTW HRT HB HB2 HB3 HLA HL2 HL3 HX3
          go_quiet (fail)
          have HL6 := Lib.hid (HL4.out.below (below_drewN (Below.refl _ w4) nq))
          have HB6 := Lib.hid (below_drewN HB4.out nq)
          clear HL4 HB4 HX4 z0 z1 z2
          generalize w4.drewN nq = W6 at *
          go_wp2_with (first
            | (go_at_call 55; go_must ((with_reducible refine (HNM.out _ HL6.out).mono ?_); intro e w7 h; obtain ⟨v7, rfl, hr, hb⟩ := h; obtain ⟨A7, c7, rfl⟩ := hr.slice; have HR7 := Lib.hid hr.slt; have HB7 := Lib.hid (HB6.out.trans (hb.mono HB6.out.size)); have HL7 := Lib.hid (HL6.out.below hb); clear hr hb))
            | (go_at_call 56; go_must ((with_reducible refine (HRN.out _ HL7.out).mono ?_); intro e w8 h; obtain ⟨v8, rfl, hr, hb⟩ := h; obtain ⟨A8, c8, rfl⟩ := hr.slice; have HR8 := Lib.hid hr.slt; have HR78 := Lib.hid (HR7.out.below hb); have HB8 := Lib.hid (HB7.out.trans (hb.mono HB7.out.size)); clear hr hb))
            | (go_at_call 54; go_must ((with_reducible refine (HST.out _ _ _ _ _ HR78.out HR8.out).mono ?_); rintro e w9 ⟨rfl, hb⟩; have HB9 := Lib.hid (HB8.out.trans (hb.mono HB8.out.size)); clear hb)))
          go_ret
          exact ⟨rfl, HB9.out⟩
        · rw [hf1, twZ_none]
          rw [hf2, fdV_none] at hfdw
          rw [ht1, twZ_some] at hrtw
          rw [ht3, twV_some] at htww
          have HFW := Lib.hid hfdw
          have HTW := Lib.hid htww
          have HRT := Lib.hid hrtw
          clear hfdw htww hrtw
          have he : ∀ W, (binOp BinOp.neq 78 (.agg #[.string { data := #[] }, .int .u8 0, .int .u32 0]) (.agg #[.string { data := #[] }, .int .u8 0, .int .u32 0])).run Tryd.prog W = .ok (.bool false) W := fun W => by have h := neq_ex exZ exZ W; rw [decide_eq_true rfl] at h; exact h
          clear hf1 hf2
          have HM := Lib.hid ht2
          have dm : decide ((0 : Int) ≤ (m : Int)) = true := decide_eq_true (by omega)
          clear ht1 ht2 ht3
          go_upto_region 14 with (first
            | (go_at_call 51; go_must ((with_reducible refine HFW.out.mono ?_); rintro e w2 ⟨rfl, hb⟩; have HB2 := Lib.hid (HB.out.trans (hb.mono HB.out.size)); have HL2 := Lib.hid (HLA.out.below hb); clear hb))
            | (go_at_call 52; go_must ((with_reducible refine (HTW.out _ (HL2.out.below (below_box w2 (.cells #[.string { data := #[] }, .int .u8 0, .int .u32 0] 78)))).mono ?_); rintro e w3 ⟨rfl, hb⟩; have HX3 := Lib.hid ((Whole.made w2 78 #[.string { data := #[] }, .int .u8 0, .int .u32 0]).below hb); have HL3 := Lib.hid ((HL2.out.below (below_box w2 (.cells #[.string { data := #[] }, .int .u8 0, .int .u32 0] 78))).below hb); have HB3 := Lib.hid (HB2.out.trans (((below_box w2 (.cells #[.string { data := #[] }, .int .u8 0, .int .u32 0] 78)).trans (hb.mono (below_box w2 (.cells #[.string { data := #[] }, .int .u8 0, .int .u32 0] 78)).size)).mono HB2.out.size)); clear hb))
            | (go_at_call 53; go_must ((with_reducible refine (HRT.out _ HL3.out).mono ?_); rintro e w4 ⟨rfl, hb⟩; have HX4 := Lib.hid (HX3.out.below hb); have HL4 := Lib.hid (HL3.out.below hb); have HB4 := Lib.hid (HB3.out.trans (hb.mono HB3.out.size)); clear hb)))
          have z0 := HX4.out.cell 0
          have z1 := HX4.out.cell 1
          have z2 := HX4.out.cell 2
          simp only [List.getElem?_toArray, List.getElem?_cons_zero, List.getElem?_cons_succ] at z0 z1 z2
          have hmn : m < n := by rw [HN.out]; exact (List.getElem?_eq_some_iff.1 HM.out).1
          obtain ⟨bq, offq, hAq, _, q0, q1, q2⟩ := HL4.out.three HM.out
          subst hAq
          clear HFW HTW HRT HB HB2 HB3 HLA HL2 HL3 HX3
          go_quiet (fail)
          have HL6 := Lib.hid (HL4.out.below (below_drewN (Below.refl _ w4) nq))
          have HB6 := Lib.hid (below_drewN HB4.out nq)
          clear HL4 HB4 HX4 z0 z1 z2
          generalize w4.drewN nq = W6 at *
          go_wp2_with (first
            | (go_at_call 55; go_must ((with_reducible refine (HNM.out _ HL6.out).mono ?_); intro e w7 h; obtain ⟨v7, rfl, hr, hb⟩ := h; obtain ⟨A7, c7, rfl⟩ := hr.slice; have HR7 := Lib.hid hr.slt; have HB7 := Lib.hid (HB6.out.trans (hb.mono HB6.out.size)); have HL7 := Lib.hid (HL6.out.below hb); clear hr hb))
            | (go_at_call 56; go_must ((with_reducible refine (HRN.out _ HL7.out).mono ?_); intro e w8 h; obtain ⟨v8, rfl, hr, hb⟩ := h; obtain ⟨A8, c8, rfl⟩ := hr.slice; have HR8 := Lib.hid hr.slt; have HR78 := Lib.hid (HR7.out.below hb); have HB8 := Lib.hid (HB7.out.trans (hb.mono HB7.out.size)); clear hr hb))
            | (go_at_call 54; go_must ((with_reducible refine (HST.out _ _ _ _ _ HR78.out HR8.out).mono ?_); rintro e w9 ⟨rfl, hb⟩; have HB9 := Lib.hid (HB8.out.trans (hb.mono HB8.out.size)); clear hb)))
          go_ret
          exact ⟨rfl, HB9.out⟩
      · rcases HBT.out with ⟨ht1, ht2⟩ | ⟨m, y, ht1, ht2, ht3⟩
        · rw [hf1, twZ_some]
          rw [hf3, fdV_some] at hfdw
          rw [ht1, twZ_none] at hrtw
          rw [ht2, twV_none] at htww
          have HFW := Lib.hid hfdw
          have HTW := Lib.hid htww
          have HRT := Lib.hid hrtw
          clear hfdw htww hrtw
          have HJ := Lib.hid hf2
          have he : ∀ W, (binOp BinOp.neq 78 (exV x) (exV x)).run Tryd.prog W = .ok (.bool false) W := fun W => by rw [neq_ex, decide_eq_true rfl]; rfl
          have dj : decide ((0 : Int) ≤ (j : Int)) = true := decide_eq_true (by omega)
          clear hf1 hf2 hf3
          clear ht1 ht2
          go_upto_region 14 with (first
            | (go_at_call 51; go_must ((with_reducible refine HFW.out.mono ?_); rintro e w2 ⟨rfl, hb⟩; have HB2 := Lib.hid (HB.out.trans (hb.mono HB.out.size)); have HL2 := Lib.hid (HLA.out.below hb); clear hb))
            | (go_at_call 52; go_must ((with_reducible refine (HTW.out _ (HL2.out.below (below_box w2 (.cells (exC x) 78)))).mono ?_); rintro e w3 ⟨rfl, hb⟩; have HX3 := Lib.hid ((Whole.made w2 78 (exC x)).below hb); have HL3 := Lib.hid ((HL2.out.below (below_box w2 (.cells (exC x) 78))).below hb); have HB3 := Lib.hid (HB2.out.trans (((below_box w2 (.cells (exC x) 78)).trans (hb.mono (below_box w2 (.cells (exC x) 78)).size)).mono HB2.out.size)); clear hb))
            | (go_at_call 53; go_must ((with_reducible refine (HRT.out _ HL3.out).mono ?_); rintro e w4 ⟨rfl, hb⟩; have HX4 := Lib.hid (HX3.out.below hb); have HL4 := Lib.hid (HL3.out.below hb); have HB4 := Lib.hid (HB3.out.trans (hb.mono HB3.out.size)); clear hb)))
          have z0 := HX4.out.cell 0
          have z1 := HX4.out.cell 1
          have z2 := HX4.out.cell 2
          simp only [List.getElem?_toArray, List.getElem?_cons_zero, List.getElem?_cons_succ] at z0 z1 z2
          have hjn : j < n := by rw [HN.out]; exact (List.getElem?_eq_some_iff.1 HJ.out).1
          obtain ⟨bp, offp, hAp, _, p0, p1, p2⟩ := HL4.out.three HJ.out
          subst hAp
          clear HFW HTW HRT HB HB2 HB3 HLA HL2 HL3 HX3
          go_quiet (fail)
          have HL6 := Lib.hid (HL4.out.below (below_drewN (Below.refl _ w4) nq))
          have HB6 := Lib.hid (below_drewN HB4.out nq)
          clear HL4 HB4 HX4 z0 z1 z2
          generalize w4.drewN nq = W6 at *
          go_wp2_with (first
            | (go_at_call 55; go_must ((with_reducible refine (HNM.out _ HL6.out).mono ?_); intro e w7 h; obtain ⟨v7, rfl, hr, hb⟩ := h; obtain ⟨A7, c7, rfl⟩ := hr.slice; have HR7 := Lib.hid hr.slt; have HB7 := Lib.hid (HB6.out.trans (hb.mono HB6.out.size)); have HL7 := Lib.hid (HL6.out.below hb); clear hr hb))
            | (go_at_call 56; go_must ((with_reducible refine (HRN.out _ HL7.out).mono ?_); intro e w8 h; obtain ⟨v8, rfl, hr, hb⟩ := h; obtain ⟨A8, c8, rfl⟩ := hr.slice; have HR8 := Lib.hid hr.slt; have HR78 := Lib.hid (HR7.out.below hb); have HB8 := Lib.hid (HB7.out.trans (hb.mono HB7.out.size)); clear hr hb))
            | (go_at_call 54; go_must ((with_reducible refine (HST.out _ _ _ _ _ HR78.out HR8.out).mono ?_); rintro e w9 ⟨rfl, hb⟩; have HB9 := Lib.hid (HB8.out.trans (hb.mono HB8.out.size)); clear hb)))
          go_ret
          exact ⟨rfl, HB9.out⟩
        · rw [hf1, twZ_some]
          rw [hf3, fdV_some] at hfdw
          rw [ht1, twZ_some] at hrtw
          rw [ht3, twV_some] at htww
          have HFW := Lib.hid hfdw
          have HTW := Lib.hid htww
          have HRT := Lib.hid hrtw
          clear hfdw htww hrtw
          have HJ := Lib.hid hf2
          have he : ∀ W, (binOp BinOp.neq 78 (exV x) (exV x)).run Tryd.prog W = .ok (.bool false) W := fun W => by rw [neq_ex, decide_eq_true rfl]; rfl
          have dj : decide ((0 : Int) ≤ (j : Int)) = true := decide_eq_true (by omega)
          clear hf1 hf2 hf3
          have HM := Lib.hid ht2
          have dm : decide ((0 : Int) ≤ (m : Int)) = true := decide_eq_true (by omega)
          clear ht1 ht2 ht3
          go_upto_region 14 with (first
            | (go_at_call 51; go_must ((with_reducible refine HFW.out.mono ?_); rintro e w2 ⟨rfl, hb⟩; have HB2 := Lib.hid (HB.out.trans (hb.mono HB.out.size)); have HL2 := Lib.hid (HLA.out.below hb); clear hb))
            | (go_at_call 52; go_must ((with_reducible refine (HTW.out _ (HL2.out.below (below_box w2 (.cells (exC x) 78)))).mono ?_); rintro e w3 ⟨rfl, hb⟩; have HX3 := Lib.hid ((Whole.made w2 78 (exC x)).below hb); have HL3 := Lib.hid ((HL2.out.below (below_box w2 (.cells (exC x) 78))).below hb); have HB3 := Lib.hid (HB2.out.trans (((below_box w2 (.cells (exC x) 78)).trans (hb.mono (below_box w2 (.cells (exC x) 78)).size)).mono HB2.out.size)); clear hb))
            | (go_at_call 53; go_must ((with_reducible refine (HRT.out _ HL3.out).mono ?_); rintro e w4 ⟨rfl, hb⟩; have HX4 := Lib.hid (HX3.out.below hb); have HL4 := Lib.hid (HL3.out.below hb); have HB4 := Lib.hid (HB3.out.trans (hb.mono HB3.out.size)); clear hb)))
          have z0 := HX4.out.cell 0
          have z1 := HX4.out.cell 1
          have z2 := HX4.out.cell 2
          simp only [List.getElem?_toArray, List.getElem?_cons_zero, List.getElem?_cons_succ] at z0 z1 z2
          have hjn : j < n := by rw [HN.out]; exact (List.getElem?_eq_some_iff.1 HJ.out).1
          have hmn : m < n := by rw [HN.out]; exact (List.getElem?_eq_some_iff.1 HM.out).1
          obtain ⟨bp, offp, hAp, _, p0, p1, p2⟩ := HL4.out.three HJ.out
          subst hAp
          obtain ⟨bq, offq, hAq, _, q0, q1, q2⟩ := HL4.out.three HM.out
          injection hAq with hAq
          injection hAq with e1 e2
          subst e1; subst e2
          clear HFW HTW HRT HB HB2 HB3 HLA HL2 HL3 HX3
          go_quiet (fail)
          have HL6 := Lib.hid (HL4.out.below (below_drewN (Below.refl _ w4) nq))
          have HB6 := Lib.hid (below_drewN HB4.out nq)
          clear HL4 HB4 HX4 z0 z1 z2
          generalize w4.drewN nq = W6 at *
          go_wp2_with (first
            | (go_at_call 55; go_must ((with_reducible refine (HNM.out _ HL6.out).mono ?_); intro e w7 h; obtain ⟨v7, rfl, hr, hb⟩ := h; obtain ⟨A7, c7, rfl⟩ := hr.slice; have HR7 := Lib.hid hr.slt; have HB7 := Lib.hid (HB6.out.trans (hb.mono HB6.out.size)); have HL7 := Lib.hid (HL6.out.below hb); clear hr hb))
            | (go_at_call 56; go_must ((with_reducible refine (HRN.out _ HL7.out).mono ?_); intro e w8 h; obtain ⟨v8, rfl, hr, hb⟩ := h; obtain ⟨A8, c8, rfl⟩ := hr.slice; have HR8 := Lib.hid hr.slt; have HR78 := Lib.hid (HR7.out.below hb); have HB8 := Lib.hid (HB7.out.trans (hb.mono HB7.out.size)); clear hr hb))
            | (go_at_call 54; go_must ((with_reducible refine (HST.out _ _ _ _ _ HR78.out HR8.out).mono ?_); rintro e w9 ⟨rfl, hb⟩; have HB9 := Lib.hid (HB8.out.trans (hb.mono HB8.out.size)); clear hb)))
          go_ret
          exact ⟨rfl, HB9.out⟩
end Go.Proofs.YtanddfkhokcepaaDoor

/- creelref11.Count, Right, Put. -/
namespace Go.Proofs.YtanddfkhokcepaaDoor
open Go.RowKit Go.Lib
set_option linter.unusedVariables false
set_option maxRecDepth 100000

theorem rcount_ex (n : Nat) (w : World) (hn : n ≤ 1000000) : Calls Tryd.prog 46 #[.int .i64 n] w (Strs (lebL n) w) := by
  have HC := Lib.hid (fun w => count_any (n : Int) w (by omega) (by omega))
  generalize lebL (n : Int) = y at *
  go_enter Tryd.func46, Tryd.ntmps46
  go_wp2_with (go_at_call 60; go_must ((with_reducible refine (HC.out _).mono ?_); rintro e w1 ⟨rfl, hb⟩; have HB := Lib.hid hb; clear hb))
  go_ret
  exact ⟨rfl, HB.out⟩
set_option maxHeartbeats 2000000 in
theorem rright_ex (x : Ex) (w : World) (hs : x.nam.length ≤ 1000000) : Calls Tryd.prog 38 #[exV x] w fun e w' => e = .returned (.int .i64 (rE x)) ∧ Below w.heap.size w w' := by
  have hsz := S_size x.nam
  have H0 := Lib.hid (bxE_start w x)
  by_cases h2 : 200 < x.nam.length
  · have e : rE x = 13 := by unfold rE checkZ; rw [if_pos h2, if_pos (by decide)]
    rw [e]
    have hs2 : decide ((200 : Int) < (x.nam.length : Int)) = true := decide_eq_true (by omega)
    clear e h2
    go_enter Tryd.func38, Tryd.ntmps38
    go_wp2
    go_ret
    exact ⟨rfl, bxE_bel H0.out⟩
  · have hd : decide ((200 : Int) < (x.nam.length : Int)) = false := decide_eq_false (by omega)
    have HC := Lib.hid (fun w => refCount_any x.nam w hs)
    by_cases hv : validD x.nam = true
    · have hc : countZ x.nam = (runeCountL x.nam : Int) := by unfold countZ; rw [if_pos hv]
      have hd2 : decide (countZ x.nam < 0) = false := decide_eq_false (by rw [hc]; omega)
      have hz : checkZ x.nam = 0 := by unfold checkZ; rw [if_neg h2, if_pos hv]
      generalize countZ x.nam = z at *
      by_cases k3 : 3 < x.kind.toNat
      · have e : rE x = 43 := by unfold rE; rw [if_neg (by simpa using hz), if_pos k3]
        rw [e]
        have d3 : decide ((3 : Int) < (x.kind.toNat : Int)) = true := decide_eq_true (by omega)
        clear e h2 hv hc hz k3
        go_enter Tryd.func38, Tryd.ntmps38
        go_wp2_with (go_at_call 13; go_must ((with_reducible refine (HC.out _).mono ?_); rintro e w1 ⟨rfl, hb⟩; have H1 := Lib.hid (bxE_on H0.out hb); have c1 := H1.out.1.1.cell 1; simp only [List.getElem?_toArray, List.getElem?_cons_zero, List.getElem?_cons_succ] at c1; clear hb))
        go_ret
        exact ⟨rfl, bxE_bel H1.out⟩
      · have e : rE x = 0 := by unfold rE; rw [if_neg (by simpa using hz), if_neg k3]
        rw [e]
        have d3 : decide ((3 : Int) < (x.kind.toNat : Int)) = false := decide_eq_false (by omega)
        clear e h2 hv hc hz k3
        go_enter Tryd.func38, Tryd.ntmps38
        go_wp2_with (go_at_call 13; go_must ((with_reducible refine (HC.out _).mono ?_); rintro e w1 ⟨rfl, hb⟩; have H1 := Lib.hid (bxE_on H0.out hb); have c1 := H1.out.1.1.cell 1; simp only [List.getElem?_toArray, List.getElem?_cons_zero, List.getElem?_cons_succ] at c1; clear hb))
        go_ret
        exact ⟨rfl, bxE_bel H1.out⟩
    · have hc : countZ x.nam = -1 := by unfold countZ; rw [if_neg hv]
      have hd2 : decide (countZ x.nam < 0) = true := decide_eq_true (by rw [hc]; omega)
      have e : rE x = 4 := by unfold rE checkZ; rw [if_neg h2, if_neg hv, if_pos (by decide)]
      rw [e]
      clear e h2 hv hc
      generalize countZ x.nam = z at *
      go_enter Tryd.func38, Tryd.ntmps38
      go_wp2_with (go_at_call 13; go_must ((with_reducible refine (HC.out _).mono ?_); rintro e w1 ⟨rfl, hb⟩; have H1 := Lib.hid (bxE_on H0.out hb); clear hb))
      go_ret
      exact ⟨rfl, bxE_bel H1.out⟩
theorem S_app4 (a b c d : List UInt8) : S a ++ S b ++ S c ++ S d = S (a ++ b ++ c ++ d) := by rw [S_append, S_append, S_append]
set_option maxHeartbeats 8000000 in
theorem rput_ex (x : Ex) (w : World) (h1 : x.nam.length ≤ 100000) :
    Calls Tryd.prog 44 #[exV x] w (Strs (eputL x) w) := by
  have hB0 := bxE_start w x
  have hn1 := lebL_len (x.nam.length : Int) (by omega)
  have hn3 := lebL_len (x.idx.toNat : Int) (by have := u32_le x.idx; omega)
  have hx : eputL x = lebL x.nam.length ++ x.nam ++ [x.kind] ++ lebL x.idx.toNat := rfl
  have HC1 := Lib.hid (fun w => count_any (x.nam.length : Int) w (by omega) (by omega))
  have HC2 := Lib.hid (fun w => count_any (x.idx.toNat : Int) w (by omega) (by have := u32_le x.idx; omega))
  have wt : IntKind.i64.wrap (x.idx.toNat : Int) = x.idx.toNat := by rw [IntKind.wrap_i64]; have := u32_le x.idx; omega
  generalize lebL (x.nam.length : Int) = y1 at *
  generalize lebL (x.idx.toNat : Int) = y3 at *
  have hsz := S_size x.nam
  have sy1 := S_size y1
  have sy3 := S_size y3
  have sk := S_size [x.kind]
  rw [List.length_singleton] at sk
  have q1 : ¬ 9223372036854775807 < (S y1).size + x.nam.length := by omega
  have q2 : ¬ 9223372036854775807 < (S y1).size + x.nam.length + (S [x.kind]).size := by omega
  have q3 : ¬ 9223372036854775807 < (S y1).size + x.nam.length + (S [x.kind]).size + (S y3).size := by omega
  rw [hx]
  have HPs := Lib.hid (S_app4 y1 x.nam [x.kind] y3)
  obtain ⟨P, hP⟩ : ∃ P, P = y1 ++ x.nam ++ [x.kind] ++ y3 := ⟨_, rfl⟩
  rw [← hP] at HPs ⊢
  clear hx hP sy1 sy3 sk hn1 hn3 h1
  go_enter Tryd.func44, Tryd.ntmps44
  go_upto_region 1 with fail
  generalize w.alloc (.cells (exC x) 78) = W0 at *
  refine wp_region_noPanic ?_
  refine wp_region_held_drew (S := fun W => BxE w w.heap.size x W) (by kernel_rfl) (bxE_on hB0 (Below.refl _ _).drew) (fun hHeld => ?_)
  clear hB0
  (refine heldTake (i := 0) (oi := { dst := some 3, op := Op.fieldAddr 78 (Operand.tmp 1) 0, type := 0, pos := "ref.go:30", after := #[], guard := none }) (v := ?_) rfl (by kernel_rfl) (by kernel_rfl) (by kernel_rfl) (by assumption) ?_ ?_; rotate_left; focus (refine .inl ⟨by kernel_rfl, ?_⟩; intro w hSw; (try dsimp only at hSw); go_simp; (try with_reducible rfl)); skip)
  (try simp only [Act.put, List.setIfInBounds_toArray, List.set_cons_zero, List.set_cons_succ])
  (refine heldTake (i := 1) (oi := { dst := some 4, op := Op.load 9 (Operand.tmp 3), type := 9, pos := "ref.go:30", after := #[{ on := 0, ground := Ground.data }], guard := none }) (v := ?_) rfl (by kernel_rfl) (by kernel_rfl) (by kernel_rfl) (by assumption) ?_ ?_; rotate_left; focus (refine .inl ⟨by kernel_rfl, ?_⟩; intro w hSw; (try dsimp only at hSw); go_simp; (try with_reducible rfl)); skip)
  (try simp only [Act.put, List.setIfInBounds_toArray, List.set_cons_zero, List.set_cons_succ])
  (refine heldTake (i := 2) (oi := { dst := some 5, op := Op.call { callee := Callee.builtin Builtin.len, args := #[Operand.tmp 4], argTypes := #[9] }, type := 3, pos := "ref.go:30", after := #[{ on := 1, ground := Ground.data }], guard := none }) (v := ?_) rfl (by kernel_rfl) (by kernel_rfl) (by kernel_rfl) (by assumption) ?_ ?_; rotate_left; focus (refine .inl ⟨by kernel_rfl, ?_⟩; intro w hSw; (try dsimp only at hSw); go_simp; (try with_reducible rfl)); skip)
  (try simp only [Act.put, List.setIfInBounds_toArray, List.set_cons_zero, List.set_cons_succ])
  (refine heldTake (i := 4) (oi := { dst := some 7, op := Op.fieldAddr 78 (Operand.tmp 1) 0, type := 0, pos := "ref.go:30", after := #[], guard := none }) (v := ?_) rfl (by kernel_rfl) (by kernel_rfl) (by kernel_rfl) (by assumption) ?_ ?_; rotate_left; focus (refine .inl ⟨by kernel_rfl, ?_⟩; intro w hSw; (try dsimp only at hSw); go_simp; (try with_reducible rfl)); skip)
  (try simp only [Act.put, List.setIfInBounds_toArray, List.set_cons_zero, List.set_cons_succ])
  (refine heldTake (i := 5) (oi := { dst := some 8, op := Op.load 9 (Operand.tmp 7), type := 9, pos := "ref.go:30", after := #[{ on := 4, ground := Ground.data }], guard := none }) (v := ?_) rfl (by kernel_rfl) (by kernel_rfl) (by kernel_rfl) (by assumption) ?_ ?_; rotate_left; focus (refine .inl ⟨by kernel_rfl, ?_⟩; intro w hSw; (try dsimp only at hSw); go_simp; (try with_reducible rfl)); skip)
  (try simp only [Act.put, List.setIfInBounds_toArray, List.set_cons_zero, List.set_cons_succ])
  (refine heldTake (i := 7) (oi := { dst := some 10, op := Op.fieldAddr 78 (Operand.tmp 1) 1, type := 0, pos := "ref.go:30", after := #[], guard := none }) (v := ?_) rfl (by kernel_rfl) (by kernel_rfl) (by kernel_rfl) (by assumption) ?_ ?_; rotate_left; focus (refine .inl ⟨by kernel_rfl, ?_⟩; intro w hSw; (try dsimp only at hSw); go_simp; (try with_reducible rfl)); skip)
  (try simp only [Act.put, List.setIfInBounds_toArray, List.set_cons_zero, List.set_cons_succ])
  (refine heldTake (i := 8) (oi := { dst := some 11, op := Op.load 5 (Operand.tmp 10), type := 5, pos := "ref.go:30", after := #[{ on := 7, ground := Ground.data }], guard := none }) (v := ?_) rfl (by kernel_rfl) (by kernel_rfl) (by kernel_rfl) (by assumption) ?_ ?_; rotate_left; focus (refine .inl ⟨by kernel_rfl, ?_⟩; intro w hSw; (try dsimp only at hSw); go_simp; (try with_reducible rfl)); skip)
  (try simp only [Act.put, List.setIfInBounds_toArray, List.set_cons_zero, List.set_cons_succ])
  (refine heldTake (i := 12) (oi := { dst := some 15, op := Op.fieldAddr 78 (Operand.tmp 1) 2, type := 0, pos := "ref.go:30", after := #[], guard := none }) (v := ?_) rfl (by kernel_rfl) (by kernel_rfl) (by kernel_rfl) (by assumption) ?_ ?_; rotate_left; focus (refine .inl ⟨by kernel_rfl, ?_⟩; intro w hSw; (try dsimp only at hSw); go_simp; (try with_reducible rfl)); skip)
  (try simp only [Act.put, List.setIfInBounds_toArray, List.set_cons_zero, List.set_cons_succ])
  (refine heldTake (i := 13) (oi := { dst := some 16, op := Op.load 43 (Operand.tmp 15), type := 43, pos := "ref.go:30", after := #[{ on := 12, ground := Ground.data }], guard := none }) (v := ?_) rfl (by kernel_rfl) (by kernel_rfl) (by kernel_rfl) (by assumption) ?_ ?_; rotate_left; focus (refine .inl ⟨by kernel_rfl, ?_⟩; intro w hSw; (try dsimp only at hSw); go_simp; (try with_reducible rfl)); skip)
  (try simp only [Act.put, List.setIfInBounds_toArray, List.set_cons_zero, List.set_cons_succ])
  (refine heldTake (i := 14) (oi := { dst := some 17, op := Op.convert 43 3 (Operand.tmp 16), type := 3, pos := "ref.go:30", after := #[{ on := 13, ground := Ground.data }], guard := none }) (v := ?_) rfl (by kernel_rfl) (by kernel_rfl) (by kernel_rfl) (by assumption) ?_ ?_; rotate_left; focus (refine .inl ⟨by kernel_rfl, ?_⟩; intro w hSw; (try dsimp only at hSw); go_simp; (try with_reducible rfl)); skip)
  (try simp only [Act.put, List.setIfInBounds_toArray, List.set_cons_zero, List.set_cons_succ])
  refine wpAnyH_ready (rs := [3, 9]) (by kernel_rfl) (by simp) ?_
  refine (AllReadyH.cons (o := { dst := some 6, op := Op.call { callee := Callee.value (Operand.func 60), args := #[Operand.tmp 5], argTypes := #[3] }, type := 9, pos := "ref.go:30", after := #[{ on := 2, ground := Ground.data }], guard := none }) rfl (fun K hK => ?_) (AllReadyH.cons (o := { dst := some 12, op := Op.buildSlice 25 1 #[(0, Operand.tmp 11)], type := 25, pos := "ref.go:30", after := #[{ on := 8, ground := Ground.data }], guard := none }) rfl (fun K hK => ?_) AllReadyH.nil))
  · go_simp
    (go_at_call 60; (with_reducible refine (HC1.out _).mono ?_); rintro e w2 ⟨rfl, hb2⟩; have HB3 := Lib.hid hb2; clear hb2)
    refine hK.out _ _ (bxE_on hHeld HB3.out) (fun hHeld3 => ?_)
    clear hK K hHeld
    (try simp only [Act.put, List.setIfInBounds_toArray, List.set_cons_zero, List.set_cons_succ])
    (refine heldTake (i := 6) (oi := { dst := some 9, op := Op.binOp BinOp.add 9 (Operand.tmp 6) (Operand.tmp 8) 9, type := 9, pos := "ref.go:30", after := #[{ on := 3, ground := Ground.data }, { on := 5, ground := Ground.data }], guard := none }) (v := ?_) rfl (by kernel_rfl) (by kernel_rfl) (by kernel_rfl) (by assumption) ?_ ?_; rotate_left; focus (refine .inl ⟨by kernel_rfl, ?_⟩; intro w hSw; (try dsimp only at hSw); go_simp; (try with_reducible rfl)); skip)
    (try simp only [Act.put, List.setIfInBounds_toArray, List.set_cons_zero, List.set_cons_succ])
    refine wpAnyH_ready (rs := [9, 15]) (by kernel_rfl) (by simp) ?_
    refine (AllReadyH.cons (o := { dst := some 12, op := Op.buildSlice 25 1 #[(0, Operand.tmp 11)], type := 25, pos := "ref.go:30", after := #[{ on := 8, ground := Ground.data }], guard := none }) rfl (fun K hK => ?_) (AllReadyH.cons (o := { dst := some 18, op := Op.call { callee := Callee.value (Operand.func 60), args := #[Operand.tmp 17], argTypes := #[3] }, type := 9, pos := "ref.go:30", after := #[{ on := 14, ground := Ground.data }, { on := 3, ground := Ground.chain }], guard := none }) rfl (fun K hK => ?_) AllReadyH.nil))
    · refine step_build1 rfl _ rfl x.kind rfl ?_; intro g9 wa9 hg9 hb9 hp9; have HB9 := Lib.hid hb9; have HP9 := Lib.hid hp9; clear hb9 hp9
      refine hK.out _ _ (bxE_on hHeld3 HB9.out) (fun hHeld9 => ?_)
      clear hK K hHeld3
      (try simp only [Act.put, List.setIfInBounds_toArray, List.set_cons_zero, List.set_cons_succ])
      refine wpAnyH_ready (rs := [10, 15]) (by kernel_rfl) (by simp) ?_
      refine (AllReadyH.cons (o := { dst := some 13, op := Op.convert 25 9 (Operand.tmp 12), type := 9, pos := "ref.go:30", after := #[{ on := 9, ground := Ground.data }], guard := none }) rfl (fun K hK => ?_) (AllReadyH.cons (o := { dst := some 18, op := Op.call { callee := Callee.value (Operand.func 60), args := #[Operand.tmp 17], argTypes := #[3] }, type := 9, pos := "ref.go:30", after := #[{ on := 14, ground := Ground.data }, { on := 3, ground := Ground.chain }], guard := none }) rfl (fun K hK => ?_) AllReadyH.nil))
      · go_simp; refine upon_str (l := [x.kind]) (HP9.out) ?_; have HB10 := Lib.hid (Below.refl 0 w)
        refine hK.out _ _ hHeld9 (fun hHeld10 => ?_)
        clear hK K hHeld9
        (try simp only [Act.put, List.setIfInBounds_toArray, List.set_cons_zero, List.set_cons_succ])
        (refine heldTake (i := 11) (oi := { dst := some 14, op := Op.binOp BinOp.add 9 (Operand.tmp 9) (Operand.tmp 13) 9, type := 9, pos := "ref.go:30", after := #[{ on := 6, ground := Ground.data }, { on := 10, ground := Ground.data }], guard := none }) (v := ?_) rfl (by kernel_rfl) (by kernel_rfl) (by kernel_rfl) (by assumption) ?_ ?_; rotate_left; focus (refine .inl ⟨by kernel_rfl, ?_⟩; intro w hSw; (try dsimp only at hSw); go_simp; (try with_reducible rfl)); skip)
        (try simp only [Act.put, List.setIfInBounds_toArray, List.set_cons_zero, List.set_cons_succ])
        refine wpAnyH_ready (rs := [15]) (by kernel_rfl) (by simp) ?_
        refine (AllReadyH.cons (o := { dst := some 18, op := Op.call { callee := Callee.value (Operand.func 60), args := #[Operand.tmp 17], argTypes := #[3] }, type := 9, pos := "ref.go:30", after := #[{ on := 14, ground := Ground.data }, { on := 3, ground := Ground.chain }], guard := none }) rfl (fun K hK => ?_) AllReadyH.nil)
        go_simp
        (go_at_call 60; (with_reducible refine (HC2.out _).mono ?_); rintro e w5 ⟨rfl, hb5⟩; have HB15 := Lib.hid hb5; clear hb5)
        refine hK.out _ _ (bxE_on hHeld10 HB15.out) (fun hHeld15 => ?_)
        clear hK K hHeld10
        (try simp only [Act.put, List.setIfInBounds_toArray, List.set_cons_zero, List.set_cons_succ])
        (refine heldTake (i := 16) (oi := { dst := some 19, op := Op.binOp BinOp.add 9 (Operand.tmp 14) (Operand.tmp 18) 9, type := 9, pos := "ref.go:30", after := #[{ on := 11, ground := Ground.data }, { on := 15, ground := Ground.data }], guard := none }) (v := ?_) rfl (by kernel_rfl) (by kernel_rfl) (by kernel_rfl) (by assumption) ?_ ?_; rotate_left; focus (refine .inl ⟨by kernel_rfl, ?_⟩; intro w hSw; (try dsimp only at hSw); go_simp; (try with_reducible rfl)); skip)
        (try simp only [Act.put, List.setIfInBounds_toArray, List.set_cons_zero, List.set_cons_succ])
        (refine heldTake (i := 17) (oi := { dst := some 2, op := Op.assign (Operand.tmp 19), type := 9, pos := "ref.go:30", after := #[{ on := 16, ground := Ground.data }, { on := 15, ground := Ground.chain }, { on := 0, ground := Ground.phase }, { on := 1, ground := Ground.phase }, { on := 2, ground := Ground.phase }, { on := 3, ground := Ground.phase }, { on := 4, ground := Ground.phase }, { on := 5, ground := Ground.phase }, { on := 6, ground := Ground.phase }, { on := 7, ground := Ground.phase }, { on := 8, ground := Ground.phase }, { on := 9, ground := Ground.phase }, { on := 10, ground := Ground.phase }, { on := 11, ground := Ground.phase }, { on := 12, ground := Ground.phase }, { on := 13, ground := Ground.phase }, { on := 14, ground := Ground.phase }, { on := 15, ground := Ground.phase }, { on := 16, ground := Ground.phase }], guard := none }) (v := ?_) rfl (by kernel_rfl) (by kernel_rfl) (by kernel_rfl) (by assumption) ?_ ?_; rotate_left; focus (refine .inl ⟨by kernel_rfl, ?_⟩; intro w hSw; (try dsimp only at hSw); go_simp; (try with_reducible rfl)); skip)
        (try simp only [Act.put, List.setIfInBounds_toArray, List.set_cons_zero, List.set_cons_succ])
        refine wpAnyH_done (by kernel_rfl) ?_ _
        refine NoPanic.normal ?_
        have hLast := hHeld15
        clear hHeld15
        go_wp2
        go_ret
        exact ⟨congrArg (fun b => Ending.returned (Value.string b)) HPs.out, hLast.1.2⟩
      · go_simp
        (go_at_call 60; (with_reducible refine (HC2.out _).mono ?_); rintro e w5 ⟨rfl, hb5⟩; have HB15 := Lib.hid hb5; clear hb5)
        refine hK.out _ _ (bxE_on hHeld9 HB15.out) (fun hHeld15 => ?_)
        clear hK K hHeld9
        (try simp only [Act.put, List.setIfInBounds_toArray, List.set_cons_zero, List.set_cons_succ])
        refine wpAnyH_ready (rs := [10]) (by kernel_rfl) (by simp) ?_
        refine (AllReadyH.cons (o := { dst := some 13, op := Op.convert 25 9 (Operand.tmp 12), type := 9, pos := "ref.go:30", after := #[{ on := 9, ground := Ground.data }], guard := none }) rfl (fun K hK => ?_) AllReadyH.nil)
        go_simp; refine upon_str (l := [x.kind]) (((HP9.out).below HB15.out)) ?_; have HB10 := Lib.hid (Below.refl 0 w)
        refine hK.out _ _ hHeld15 (fun hHeld10 => ?_)
        clear hK K hHeld15
        (try simp only [Act.put, List.setIfInBounds_toArray, List.set_cons_zero, List.set_cons_succ])
        (refine heldTake (i := 11) (oi := { dst := some 14, op := Op.binOp BinOp.add 9 (Operand.tmp 9) (Operand.tmp 13) 9, type := 9, pos := "ref.go:30", after := #[{ on := 6, ground := Ground.data }, { on := 10, ground := Ground.data }], guard := none }) (v := ?_) rfl (by kernel_rfl) (by kernel_rfl) (by kernel_rfl) (by assumption) ?_ ?_; rotate_left; focus (refine .inl ⟨by kernel_rfl, ?_⟩; intro w hSw; (try dsimp only at hSw); go_simp; (try with_reducible rfl)); skip)
        (try simp only [Act.put, List.setIfInBounds_toArray, List.set_cons_zero, List.set_cons_succ])
        (refine heldTake (i := 16) (oi := { dst := some 19, op := Op.binOp BinOp.add 9 (Operand.tmp 14) (Operand.tmp 18) 9, type := 9, pos := "ref.go:30", after := #[{ on := 11, ground := Ground.data }, { on := 15, ground := Ground.data }], guard := none }) (v := ?_) rfl (by kernel_rfl) (by kernel_rfl) (by kernel_rfl) (by assumption) ?_ ?_; rotate_left; focus (refine .inl ⟨by kernel_rfl, ?_⟩; intro w hSw; (try dsimp only at hSw); go_simp; (try with_reducible rfl)); skip)
        (try simp only [Act.put, List.setIfInBounds_toArray, List.set_cons_zero, List.set_cons_succ])
        (refine heldTake (i := 17) (oi := { dst := some 2, op := Op.assign (Operand.tmp 19), type := 9, pos := "ref.go:30", after := #[{ on := 16, ground := Ground.data }, { on := 15, ground := Ground.chain }, { on := 0, ground := Ground.phase }, { on := 1, ground := Ground.phase }, { on := 2, ground := Ground.phase }, { on := 3, ground := Ground.phase }, { on := 4, ground := Ground.phase }, { on := 5, ground := Ground.phase }, { on := 6, ground := Ground.phase }, { on := 7, ground := Ground.phase }, { on := 8, ground := Ground.phase }, { on := 9, ground := Ground.phase }, { on := 10, ground := Ground.phase }, { on := 11, ground := Ground.phase }, { on := 12, ground := Ground.phase }, { on := 13, ground := Ground.phase }, { on := 14, ground := Ground.phase }, { on := 15, ground := Ground.phase }, { on := 16, ground := Ground.phase }], guard := none }) (v := ?_) rfl (by kernel_rfl) (by kernel_rfl) (by kernel_rfl) (by assumption) ?_ ?_; rotate_left; focus (refine .inl ⟨by kernel_rfl, ?_⟩; intro w hSw; (try dsimp only at hSw); go_simp; (try with_reducible rfl)); skip)
        (try simp only [Act.put, List.setIfInBounds_toArray, List.set_cons_zero, List.set_cons_succ])
        refine wpAnyH_done (by kernel_rfl) ?_ _
        refine NoPanic.normal ?_
        have hLast := hHeld10
        clear hHeld10
        go_wp2
        go_ret
        exact ⟨congrArg (fun b => Ending.returned (Value.string b)) HPs.out, hLast.1.2⟩
    · go_simp
      (go_at_call 60; (with_reducible refine (HC2.out _).mono ?_); rintro e w5 ⟨rfl, hb5⟩; have HB15 := Lib.hid hb5; clear hb5)
      refine hK.out _ _ (bxE_on hHeld3 HB15.out) (fun hHeld15 => ?_)
      clear hK K hHeld3
      (try simp only [Act.put, List.setIfInBounds_toArray, List.set_cons_zero, List.set_cons_succ])
      refine wpAnyH_ready (rs := [9]) (by kernel_rfl) (by simp) ?_
      refine (AllReadyH.cons (o := { dst := some 12, op := Op.buildSlice 25 1 #[(0, Operand.tmp 11)], type := 25, pos := "ref.go:30", after := #[{ on := 8, ground := Ground.data }], guard := none }) rfl (fun K hK => ?_) AllReadyH.nil)
      refine step_build1 rfl _ rfl x.kind rfl ?_; intro g9 wa9 hg9 hb9 hp9; have HB9 := Lib.hid hb9; have HP9 := Lib.hid hp9; clear hb9 hp9
      refine hK.out _ _ (bxE_on hHeld15 HB9.out) (fun hHeld9 => ?_)
      clear hK K hHeld15
      (try simp only [Act.put, List.setIfInBounds_toArray, List.set_cons_zero, List.set_cons_succ])
      refine wpAnyH_ready (rs := [10]) (by kernel_rfl) (by simp) ?_
      refine (AllReadyH.cons (o := { dst := some 13, op := Op.convert 25 9 (Operand.tmp 12), type := 9, pos := "ref.go:30", after := #[{ on := 9, ground := Ground.data }], guard := none }) rfl (fun K hK => ?_) AllReadyH.nil)
      go_simp; refine upon_str (l := [x.kind]) (HP9.out) ?_; have HB10 := Lib.hid (Below.refl 0 w)
      refine hK.out _ _ hHeld9 (fun hHeld10 => ?_)
      clear hK K hHeld9
      (try simp only [Act.put, List.setIfInBounds_toArray, List.set_cons_zero, List.set_cons_succ])
      (refine heldTake (i := 11) (oi := { dst := some 14, op := Op.binOp BinOp.add 9 (Operand.tmp 9) (Operand.tmp 13) 9, type := 9, pos := "ref.go:30", after := #[{ on := 6, ground := Ground.data }, { on := 10, ground := Ground.data }], guard := none }) (v := ?_) rfl (by kernel_rfl) (by kernel_rfl) (by kernel_rfl) (by assumption) ?_ ?_; rotate_left; focus (refine .inl ⟨by kernel_rfl, ?_⟩; intro w hSw; (try dsimp only at hSw); go_simp; (try with_reducible rfl)); skip)
      (try simp only [Act.put, List.setIfInBounds_toArray, List.set_cons_zero, List.set_cons_succ])
      (refine heldTake (i := 16) (oi := { dst := some 19, op := Op.binOp BinOp.add 9 (Operand.tmp 14) (Operand.tmp 18) 9, type := 9, pos := "ref.go:30", after := #[{ on := 11, ground := Ground.data }, { on := 15, ground := Ground.data }], guard := none }) (v := ?_) rfl (by kernel_rfl) (by kernel_rfl) (by kernel_rfl) (by assumption) ?_ ?_; rotate_left; focus (refine .inl ⟨by kernel_rfl, ?_⟩; intro w hSw; (try dsimp only at hSw); go_simp; (try with_reducible rfl)); skip)
      (try simp only [Act.put, List.setIfInBounds_toArray, List.set_cons_zero, List.set_cons_succ])
      (refine heldTake (i := 17) (oi := { dst := some 2, op := Op.assign (Operand.tmp 19), type := 9, pos := "ref.go:30", after := #[{ on := 16, ground := Ground.data }, { on := 15, ground := Ground.chain }, { on := 0, ground := Ground.phase }, { on := 1, ground := Ground.phase }, { on := 2, ground := Ground.phase }, { on := 3, ground := Ground.phase }, { on := 4, ground := Ground.phase }, { on := 5, ground := Ground.phase }, { on := 6, ground := Ground.phase }, { on := 7, ground := Ground.phase }, { on := 8, ground := Ground.phase }, { on := 9, ground := Ground.phase }, { on := 10, ground := Ground.phase }, { on := 11, ground := Ground.phase }, { on := 12, ground := Ground.phase }, { on := 13, ground := Ground.phase }, { on := 14, ground := Ground.phase }, { on := 15, ground := Ground.phase }, { on := 16, ground := Ground.phase }], guard := none }) (v := ?_) rfl (by kernel_rfl) (by kernel_rfl) (by kernel_rfl) (by assumption) ?_ ?_; rotate_left; focus (refine .inl ⟨by kernel_rfl, ?_⟩; intro w hSw; (try dsimp only at hSw); go_simp; (try with_reducible rfl)); skip)
      (try simp only [Act.put, List.setIfInBounds_toArray, List.set_cons_zero, List.set_cons_succ])
      refine wpAnyH_done (by kernel_rfl) ?_ _
      refine NoPanic.normal ?_
      have hLast := hHeld10
      clear hHeld10
      go_wp2
      go_ret
      exact ⟨congrArg (fun b => Ending.returned (Value.string b)) HPs.out, hLast.1.2⟩
  · refine step_build1 rfl _ rfl x.kind rfl ?_; intro g9 wa9 hg9 hb9 hp9; have HB9 := Lib.hid hb9; have HP9 := Lib.hid hp9; clear hb9 hp9
    refine hK.out _ _ (bxE_on hHeld HB9.out) (fun hHeld9 => ?_)
    clear hK K hHeld
    (try simp only [Act.put, List.setIfInBounds_toArray, List.set_cons_zero, List.set_cons_succ])
    refine wpAnyH_ready (rs := [3, 10]) (by kernel_rfl) (by simp) ?_
    refine (AllReadyH.cons (o := { dst := some 6, op := Op.call { callee := Callee.value (Operand.func 60), args := #[Operand.tmp 5], argTypes := #[3] }, type := 9, pos := "ref.go:30", after := #[{ on := 2, ground := Ground.data }], guard := none }) rfl (fun K hK => ?_) (AllReadyH.cons (o := { dst := some 13, op := Op.convert 25 9 (Operand.tmp 12), type := 9, pos := "ref.go:30", after := #[{ on := 9, ground := Ground.data }], guard := none }) rfl (fun K hK => ?_) AllReadyH.nil))
    · go_simp
      (go_at_call 60; (with_reducible refine (HC1.out _).mono ?_); rintro e w2 ⟨rfl, hb2⟩; have HB3 := Lib.hid hb2; clear hb2)
      refine hK.out _ _ (bxE_on hHeld9 HB3.out) (fun hHeld3 => ?_)
      clear hK K hHeld9
      (try simp only [Act.put, List.setIfInBounds_toArray, List.set_cons_zero, List.set_cons_succ])
      (refine heldTake (i := 6) (oi := { dst := some 9, op := Op.binOp BinOp.add 9 (Operand.tmp 6) (Operand.tmp 8) 9, type := 9, pos := "ref.go:30", after := #[{ on := 3, ground := Ground.data }, { on := 5, ground := Ground.data }], guard := none }) (v := ?_) rfl (by kernel_rfl) (by kernel_rfl) (by kernel_rfl) (by assumption) ?_ ?_; rotate_left; focus (refine .inl ⟨by kernel_rfl, ?_⟩; intro w hSw; (try dsimp only at hSw); go_simp; (try with_reducible rfl)); skip)
      (try simp only [Act.put, List.setIfInBounds_toArray, List.set_cons_zero, List.set_cons_succ])
      refine wpAnyH_ready (rs := [10, 15]) (by kernel_rfl) (by simp) ?_
      refine (AllReadyH.cons (o := { dst := some 13, op := Op.convert 25 9 (Operand.tmp 12), type := 9, pos := "ref.go:30", after := #[{ on := 9, ground := Ground.data }], guard := none }) rfl (fun K hK => ?_) (AllReadyH.cons (o := { dst := some 18, op := Op.call { callee := Callee.value (Operand.func 60), args := #[Operand.tmp 17], argTypes := #[3] }, type := 9, pos := "ref.go:30", after := #[{ on := 14, ground := Ground.data }, { on := 3, ground := Ground.chain }], guard := none }) rfl (fun K hK => ?_) AllReadyH.nil))
      · go_simp; refine upon_str (l := [x.kind]) (((HP9.out).below HB3.out)) ?_; have HB10 := Lib.hid (Below.refl 0 w)
        refine hK.out _ _ hHeld3 (fun hHeld10 => ?_)
        clear hK K hHeld3
        (try simp only [Act.put, List.setIfInBounds_toArray, List.set_cons_zero, List.set_cons_succ])
        (refine heldTake (i := 11) (oi := { dst := some 14, op := Op.binOp BinOp.add 9 (Operand.tmp 9) (Operand.tmp 13) 9, type := 9, pos := "ref.go:30", after := #[{ on := 6, ground := Ground.data }, { on := 10, ground := Ground.data }], guard := none }) (v := ?_) rfl (by kernel_rfl) (by kernel_rfl) (by kernel_rfl) (by assumption) ?_ ?_; rotate_left; focus (refine .inl ⟨by kernel_rfl, ?_⟩; intro w hSw; (try dsimp only at hSw); go_simp; (try with_reducible rfl)); skip)
        (try simp only [Act.put, List.setIfInBounds_toArray, List.set_cons_zero, List.set_cons_succ])
        refine wpAnyH_ready (rs := [15]) (by kernel_rfl) (by simp) ?_
        refine (AllReadyH.cons (o := { dst := some 18, op := Op.call { callee := Callee.value (Operand.func 60), args := #[Operand.tmp 17], argTypes := #[3] }, type := 9, pos := "ref.go:30", after := #[{ on := 14, ground := Ground.data }, { on := 3, ground := Ground.chain }], guard := none }) rfl (fun K hK => ?_) AllReadyH.nil)
        go_simp
        (go_at_call 60; (with_reducible refine (HC2.out _).mono ?_); rintro e w5 ⟨rfl, hb5⟩; have HB15 := Lib.hid hb5; clear hb5)
        refine hK.out _ _ (bxE_on hHeld10 HB15.out) (fun hHeld15 => ?_)
        clear hK K hHeld10
        (try simp only [Act.put, List.setIfInBounds_toArray, List.set_cons_zero, List.set_cons_succ])
        (refine heldTake (i := 16) (oi := { dst := some 19, op := Op.binOp BinOp.add 9 (Operand.tmp 14) (Operand.tmp 18) 9, type := 9, pos := "ref.go:30", after := #[{ on := 11, ground := Ground.data }, { on := 15, ground := Ground.data }], guard := none }) (v := ?_) rfl (by kernel_rfl) (by kernel_rfl) (by kernel_rfl) (by assumption) ?_ ?_; rotate_left; focus (refine .inl ⟨by kernel_rfl, ?_⟩; intro w hSw; (try dsimp only at hSw); go_simp; (try with_reducible rfl)); skip)
        (try simp only [Act.put, List.setIfInBounds_toArray, List.set_cons_zero, List.set_cons_succ])
        (refine heldTake (i := 17) (oi := { dst := some 2, op := Op.assign (Operand.tmp 19), type := 9, pos := "ref.go:30", after := #[{ on := 16, ground := Ground.data }, { on := 15, ground := Ground.chain }, { on := 0, ground := Ground.phase }, { on := 1, ground := Ground.phase }, { on := 2, ground := Ground.phase }, { on := 3, ground := Ground.phase }, { on := 4, ground := Ground.phase }, { on := 5, ground := Ground.phase }, { on := 6, ground := Ground.phase }, { on := 7, ground := Ground.phase }, { on := 8, ground := Ground.phase }, { on := 9, ground := Ground.phase }, { on := 10, ground := Ground.phase }, { on := 11, ground := Ground.phase }, { on := 12, ground := Ground.phase }, { on := 13, ground := Ground.phase }, { on := 14, ground := Ground.phase }, { on := 15, ground := Ground.phase }, { on := 16, ground := Ground.phase }], guard := none }) (v := ?_) rfl (by kernel_rfl) (by kernel_rfl) (by kernel_rfl) (by assumption) ?_ ?_; rotate_left; focus (refine .inl ⟨by kernel_rfl, ?_⟩; intro w hSw; (try dsimp only at hSw); go_simp; (try with_reducible rfl)); skip)
        (try simp only [Act.put, List.setIfInBounds_toArray, List.set_cons_zero, List.set_cons_succ])
        refine wpAnyH_done (by kernel_rfl) ?_ _
        refine NoPanic.normal ?_
        have hLast := hHeld15
        clear hHeld15
        go_wp2
        go_ret
        exact ⟨congrArg (fun b => Ending.returned (Value.string b)) HPs.out, hLast.1.2⟩
      · go_simp
        (go_at_call 60; (with_reducible refine (HC2.out _).mono ?_); rintro e w5 ⟨rfl, hb5⟩; have HB15 := Lib.hid hb5; clear hb5)
        refine hK.out _ _ (bxE_on hHeld3 HB15.out) (fun hHeld15 => ?_)
        clear hK K hHeld3
        (try simp only [Act.put, List.setIfInBounds_toArray, List.set_cons_zero, List.set_cons_succ])
        refine wpAnyH_ready (rs := [10]) (by kernel_rfl) (by simp) ?_
        refine (AllReadyH.cons (o := { dst := some 13, op := Op.convert 25 9 (Operand.tmp 12), type := 9, pos := "ref.go:30", after := #[{ on := 9, ground := Ground.data }], guard := none }) rfl (fun K hK => ?_) AllReadyH.nil)
        go_simp; refine upon_str (l := [x.kind]) (((((HP9.out).below HB3.out)).below HB15.out)) ?_; have HB10 := Lib.hid (Below.refl 0 w)
        refine hK.out _ _ hHeld15 (fun hHeld10 => ?_)
        clear hK K hHeld15
        (try simp only [Act.put, List.setIfInBounds_toArray, List.set_cons_zero, List.set_cons_succ])
        (refine heldTake (i := 11) (oi := { dst := some 14, op := Op.binOp BinOp.add 9 (Operand.tmp 9) (Operand.tmp 13) 9, type := 9, pos := "ref.go:30", after := #[{ on := 6, ground := Ground.data }, { on := 10, ground := Ground.data }], guard := none }) (v := ?_) rfl (by kernel_rfl) (by kernel_rfl) (by kernel_rfl) (by assumption) ?_ ?_; rotate_left; focus (refine .inl ⟨by kernel_rfl, ?_⟩; intro w hSw; (try dsimp only at hSw); go_simp; (try with_reducible rfl)); skip)
        (try simp only [Act.put, List.setIfInBounds_toArray, List.set_cons_zero, List.set_cons_succ])
        (refine heldTake (i := 16) (oi := { dst := some 19, op := Op.binOp BinOp.add 9 (Operand.tmp 14) (Operand.tmp 18) 9, type := 9, pos := "ref.go:30", after := #[{ on := 11, ground := Ground.data }, { on := 15, ground := Ground.data }], guard := none }) (v := ?_) rfl (by kernel_rfl) (by kernel_rfl) (by kernel_rfl) (by assumption) ?_ ?_; rotate_left; focus (refine .inl ⟨by kernel_rfl, ?_⟩; intro w hSw; (try dsimp only at hSw); go_simp; (try with_reducible rfl)); skip)
        (try simp only [Act.put, List.setIfInBounds_toArray, List.set_cons_zero, List.set_cons_succ])
        (refine heldTake (i := 17) (oi := { dst := some 2, op := Op.assign (Operand.tmp 19), type := 9, pos := "ref.go:30", after := #[{ on := 16, ground := Ground.data }, { on := 15, ground := Ground.chain }, { on := 0, ground := Ground.phase }, { on := 1, ground := Ground.phase }, { on := 2, ground := Ground.phase }, { on := 3, ground := Ground.phase }, { on := 4, ground := Ground.phase }, { on := 5, ground := Ground.phase }, { on := 6, ground := Ground.phase }, { on := 7, ground := Ground.phase }, { on := 8, ground := Ground.phase }, { on := 9, ground := Ground.phase }, { on := 10, ground := Ground.phase }, { on := 11, ground := Ground.phase }, { on := 12, ground := Ground.phase }, { on := 13, ground := Ground.phase }, { on := 14, ground := Ground.phase }, { on := 15, ground := Ground.phase }, { on := 16, ground := Ground.phase }], guard := none }) (v := ?_) rfl (by kernel_rfl) (by kernel_rfl) (by kernel_rfl) (by assumption) ?_ ?_; rotate_left; focus (refine .inl ⟨by kernel_rfl, ?_⟩; intro w hSw; (try dsimp only at hSw); go_simp; (try with_reducible rfl)); skip)
        (try simp only [Act.put, List.setIfInBounds_toArray, List.set_cons_zero, List.set_cons_succ])
        refine wpAnyH_done (by kernel_rfl) ?_ _
        refine NoPanic.normal ?_
        have hLast := hHeld10
        clear hHeld10
        go_wp2
        go_ret
        exact ⟨congrArg (fun b => Ending.returned (Value.string b)) HPs.out, hLast.1.2⟩
    · go_simp; refine upon_str (l := [x.kind]) (HP9.out) ?_; have HB10 := Lib.hid (Below.refl 0 w)
      refine hK.out _ _ hHeld9 (fun hHeld10 => ?_)
      clear hK K hHeld9
      (try simp only [Act.put, List.setIfInBounds_toArray, List.set_cons_zero, List.set_cons_succ])
      refine wpAnyH_ready (rs := [3]) (by kernel_rfl) (by simp) ?_
      refine (AllReadyH.cons (o := { dst := some 6, op := Op.call { callee := Callee.value (Operand.func 60), args := #[Operand.tmp 5], argTypes := #[3] }, type := 9, pos := "ref.go:30", after := #[{ on := 2, ground := Ground.data }], guard := none }) rfl (fun K hK => ?_) AllReadyH.nil)
      go_simp
      (go_at_call 60; (with_reducible refine (HC1.out _).mono ?_); rintro e w2 ⟨rfl, hb2⟩; have HB3 := Lib.hid hb2; clear hb2)
      refine hK.out _ _ (bxE_on hHeld10 HB3.out) (fun hHeld3 => ?_)
      clear hK K hHeld10
      (try simp only [Act.put, List.setIfInBounds_toArray, List.set_cons_zero, List.set_cons_succ])
      (refine heldTake (i := 6) (oi := { dst := some 9, op := Op.binOp BinOp.add 9 (Operand.tmp 6) (Operand.tmp 8) 9, type := 9, pos := "ref.go:30", after := #[{ on := 3, ground := Ground.data }, { on := 5, ground := Ground.data }], guard := none }) (v := ?_) rfl (by kernel_rfl) (by kernel_rfl) (by kernel_rfl) (by assumption) ?_ ?_; rotate_left; focus (refine .inl ⟨by kernel_rfl, ?_⟩; intro w hSw; (try dsimp only at hSw); go_simp; (try with_reducible rfl)); skip)
      (try simp only [Act.put, List.setIfInBounds_toArray, List.set_cons_zero, List.set_cons_succ])
      (refine heldTake (i := 11) (oi := { dst := some 14, op := Op.binOp BinOp.add 9 (Operand.tmp 9) (Operand.tmp 13) 9, type := 9, pos := "ref.go:30", after := #[{ on := 6, ground := Ground.data }, { on := 10, ground := Ground.data }], guard := none }) (v := ?_) rfl (by kernel_rfl) (by kernel_rfl) (by kernel_rfl) (by assumption) ?_ ?_; rotate_left; focus (refine .inl ⟨by kernel_rfl, ?_⟩; intro w hSw; (try dsimp only at hSw); go_simp; (try with_reducible rfl)); skip)
      (try simp only [Act.put, List.setIfInBounds_toArray, List.set_cons_zero, List.set_cons_succ])
      refine wpAnyH_ready (rs := [15]) (by kernel_rfl) (by simp) ?_
      refine (AllReadyH.cons (o := { dst := some 18, op := Op.call { callee := Callee.value (Operand.func 60), args := #[Operand.tmp 17], argTypes := #[3] }, type := 9, pos := "ref.go:30", after := #[{ on := 14, ground := Ground.data }, { on := 3, ground := Ground.chain }], guard := none }) rfl (fun K hK => ?_) AllReadyH.nil)
      go_simp
      (go_at_call 60; (with_reducible refine (HC2.out _).mono ?_); rintro e w5 ⟨rfl, hb5⟩; have HB15 := Lib.hid hb5; clear hb5)
      refine hK.out _ _ (bxE_on hHeld3 HB15.out) (fun hHeld15 => ?_)
      clear hK K hHeld3
      (try simp only [Act.put, List.setIfInBounds_toArray, List.set_cons_zero, List.set_cons_succ])
      (refine heldTake (i := 16) (oi := { dst := some 19, op := Op.binOp BinOp.add 9 (Operand.tmp 14) (Operand.tmp 18) 9, type := 9, pos := "ref.go:30", after := #[{ on := 11, ground := Ground.data }, { on := 15, ground := Ground.data }], guard := none }) (v := ?_) rfl (by kernel_rfl) (by kernel_rfl) (by kernel_rfl) (by assumption) ?_ ?_; rotate_left; focus (refine .inl ⟨by kernel_rfl, ?_⟩; intro w hSw; (try dsimp only at hSw); go_simp; (try with_reducible rfl)); skip)
      (try simp only [Act.put, List.setIfInBounds_toArray, List.set_cons_zero, List.set_cons_succ])
      (refine heldTake (i := 17) (oi := { dst := some 2, op := Op.assign (Operand.tmp 19), type := 9, pos := "ref.go:30", after := #[{ on := 16, ground := Ground.data }, { on := 15, ground := Ground.chain }, { on := 0, ground := Ground.phase }, { on := 1, ground := Ground.phase }, { on := 2, ground := Ground.phase }, { on := 3, ground := Ground.phase }, { on := 4, ground := Ground.phase }, { on := 5, ground := Ground.phase }, { on := 6, ground := Ground.phase }, { on := 7, ground := Ground.phase }, { on := 8, ground := Ground.phase }, { on := 9, ground := Ground.phase }, { on := 10, ground := Ground.phase }, { on := 11, ground := Ground.phase }, { on := 12, ground := Ground.phase }, { on := 13, ground := Ground.phase }, { on := 14, ground := Ground.phase }, { on := 15, ground := Ground.phase }, { on := 16, ground := Ground.phase }], guard := none }) (v := ?_) rfl (by kernel_rfl) (by kernel_rfl) (by kernel_rfl) (by assumption) ?_ ?_; rotate_left; focus (refine .inl ⟨by kernel_rfl, ?_⟩; intro w hSw; (try dsimp only at hSw); go_simp; (try with_reducible rfl)); skip)
      (try simp only [Act.put, List.setIfInBounds_toArray, List.set_cons_zero, List.set_cons_succ])
      refine wpAnyH_done (by kernel_rfl) ?_ _
      refine NoPanic.normal ?_
      have hLast := hHeld15
      clear hHeld15
      go_wp2
      go_ret
      exact ⟨congrArg (fun b => Ending.returned (Value.string b)) HPs.out, hLast.1.2⟩
end Go.Proofs.YtanddfkhokcepaaDoor

/- The walk of ExportsPuts. -/
namespace Go.Proofs.YtanddfkhokcepaaDoor
open Go.RowKit
set_option linter.unusedVariables false
set_option maxRecDepth 100000

/-- What the law keeps: the box of its input, the bytes, the scanner's cell. -/
structure PKE (w : World) (x : Ex) (p : Nat) (B : Nat) (Ab : Option Addr) (y : List UInt8) (b6 : Nat) (W : World) : Prop where
  bx : Whole W w.heap.size 78 (exC x)
  ly : Lies W B Ab (cells (nums y))
  pt : Whole W b6 54 #[.pointer (some ⟨p, 0, none⟩)]
  bel : Below w.heap.size w W
  o1 : w.heap.size < p
  o2 : B ≤ p
  o3 : p < b6
  o4 : B ≤ W.heap.size
section
variable {w W W' : World} {x : Ex} {p B b6 k k' q : Nat} {l : List UInt8} {Ab : Option Addr} {y : List UInt8}
theorem PKE.grown (h : PKE w x p B Ab y b6 W) (hg : W.grownBy W' (some q)) (h1 : p ≤ q) (h2 : b6 ≠ q) : PKE w x p B Ab y b6 W' := by
  obtain ⟨a1, a2, a3, a4, a5, a6, a7, a8⟩ := h
  exact ⟨a1.grown hg (by simp only [ne_eq, Option.some.injEq]; omega), a2.grown hg a8 (fun g e => by injection e with e; omega), a3.grown hg (by simp only [ne_eq, Option.some.injEq]; omega), below_new a4 hg (by omega), a5, a6, a7, Nat.le_trans a8 hg.size⟩
theorem PKE.below (h : PKE w x p B Ab y b6 W) (hb : Below W.heap.size W W') : PKE w x p B Ab y b6 W' := by
  obtain ⟨a1, a2, a3, a4, a5, a6, a7, a8⟩ := h
  exact ⟨a1.below hb, a2.below hb a8, a3.below hb, a4.trans (hb.mono a4.size), a5, a6, a7, Nat.le_trans a8 hb.size⟩
/-- At the law's end. -/
structure PEE (w : World) (x : Ex) (p : Nat) (B : Nat) (Ab : Option Addr) (y : List UInt8) (b6 g : Nat) (l : List UInt8) (k : Nat) (W : World) : Prop where
  a : PKE w x p B Ab y b6 W
  sc : Sc W p l k
  yb : Whole W g 78 (exC x)
  st : Whole W (g + 1) 39 #[.int .i64 0, .int .i64 0]
theorem PEE.below {g : Nat} (h : PEE w x p B Ab y b6 g l k W) (hb : Below W.heap.size W W') : PEE w x p B Ab y b6 g l k W' := ⟨h.a.below hb, h.sc.below hb, h.yb.below hb, h.st.below hb⟩
/-- .. and what it reads as. -/
abbrev PEEc (w : World) (x : Ex) (p : Nat) (B : Nat) (Ab : Option Addr) (cb : Nat) (y : List UInt8) (b6 g : Nat) (l : List UInt8) (k : Nat) (W : World) : Prop := PEE w x p B Ab y b6 g l k W ∧
  (W.cell? ⟨w.heap.size, 0, none⟩ = some (.string (S x.nam)) ∧ W.cell? ⟨w.heap.size, 1, none⟩ = some (.int .u8 x.kind.toNat) ∧ W.cell? ⟨w.heap.size, 2, none⟩ = some (.int .u32 x.idx.toNat)) ∧
  (W.cell? ⟨g, 0, none⟩ = some (.string (S x.nam)) ∧ W.cell? ⟨g, 1, none⟩ = some (.int .u8 x.kind.toNat) ∧ W.cell? ⟨g, 2, none⟩ = some (.int .u32 x.idx.toNat)) ∧
  W.cell? ⟨g + 1, 0, none⟩ = some (.int .i64 0) ∧ W.cell? ⟨b6, 0, none⟩ = some (.pointer (some ⟨p, 0, none⟩)) ∧ (convert 25 9 (.slice Ab y.length cb)).run Tryd.prog W = .ok (.string (S y)) W
theorem PEE.all {g : Nat} (h : PEE w x p B Ab y b6 g l k W) (cb : Nat) : PEEc w x p B Ab cb y b6 g l k W :=
  ⟨h, h.a.bx.ex, h.yb.ex, h.st.cell 0, h.a.pt.cell 0, str_any h.a.ly cb 9 Tryd.underlying9⟩
end
/-- The boxed input and the tables. -/
structure PStE (w : World) (x : Ex) (W : World) : Prop where
  tb : Tabs W
  bx : BxE w w.heap.size x W
theorem PStE.on {w W W' : World} {x : Ex} (h : PStE w x W) (hb : Below W.heap.size W W') : PStE w x W' := ⟨h.tb.below hb, bxE_on h.bx hb⟩
set_option maxHeartbeats 8000000 in
theorem lawXP {w : World} {x : Ex} (hT : Tabs w) :
    Calls Tryd.prog 7 #[exV x] w fun e w' => e = .returned (.bool true) ∧ Below w.heap.size w w' := by
  have HTw := Lib.hid hT
  have h0 : PStE w x (w.alloc (.cells (exC x) 78)) := ⟨hT.below (below_box _ _), bxE_start w x⟩
  have HAW := Lib.hid (awake_ex _ h0.tb)
  have H0 := Lib.hid h0
  have s2 := S_size x.nam
  clear h0 hT
  by_cases g2 : 400 < x.nam.length
  · have t2 : decide ((400 : Int) < (x.nam.length : Int)) = true := decide_eq_true (by omega)
    clear g2
    go_enter Tryd.func7, Tryd.ntmps7
    go_wp2_with (go_at_call 37; go_must ((with_reducible refine HAW.out.mono ?_); rintro e w1 ⟨rfl, hb⟩; have H1 := Lib.hid (H0.out.on hb); obtain ⟨c0, c1, c2⟩ := H1.out.bx.1.1.ex; clear hb))
    go_ret
    exact ⟨rfl, bxE_bel H1.out.bx⟩
  have t2 : decide ((400 : Int) < (x.nam.length : Int)) = false := decide_eq_false (by omega)
  have HRR := Lib.hid (fun W => rright_ex x W (by omega))
  have HIR := Lib.hid (fun W (h : Tabs W) => eright_any x W (by omega) h)
  have HPU := Lib.hid (fun W (h : Tabs W) => put_ex x W h (by omega))
  have HRP := Lib.hid (fun W => rput_ex x W (by omega))
  have hlen := eputL_len (x := x) (n := 400) (by omega) (by omega)
  unfold PuttedE at HPU
  by_cases hz : rE x = 0
  · rw [if_pos hz] at HPU
    have HGT := Lib.hid (fun W p l r k (h : Sc W p l k) (hT : TbN p W) (hd : l.drop k = eputL x ++ r) => get_ex h hT hd hz)
    rw [hz] at HRR HIR HPU
    obtain ⟨y, hy⟩ : ∃ y, y = eputL x := ⟨_, rfl⟩
    rw [← hy] at HPU HRP hlen HGT
    have hl7 : (([] ++ y) ++ [7]).length ≤ 1000000 := by simp only [List.length_append, List.length_singleton, List.length_nil]; omega
    have hl7' : ([] ++ y : List UInt8).length + ([7] : List UInt8).length ≤ 1000000 := by simp only [List.length_append, List.length_singleton, List.length_nil]; omega
    have hl0 : ([] : List UInt8).length + y.length ≤ 1000000 := by simp only [List.length_nil]; omega
    have HD := Lib.hid (show (([] ++ y) ++ [7] : List UInt8).drop 0 = y ++ [7] from by simp)
    have HLf := Lib.hid (fun W p (h : Sc W p (([] ++ y) ++ [7]) y.length) => by
      have h2 := left_any h
      have e : (((([] ++ y) ++ [7] : List UInt8).length : Int) - (y.length : Int)) = 1 := by simp only [List.length_append, List.length_singleton, List.length_nil]; omega
      rw [e] at h2
      exact h2)
    have HSm := Lib.hid (fun W => show Calls Tryd.prog 45 #[exV x, exV x] W fun e w' => e = .returned (.bool true) ∧ Below W.heap.size W w' from by have h2 := refSame_ex x x W; rw [decide_eq_true rfl] at h2; exact h2)
    obtain ⟨L, hL⟩ : ∃ L, L = (([] ++ y) ++ [7] : List UInt8) := ⟨_, rfl⟩
    rw [← hL] at hl7 HD HLf
    have HLd := Lib.hid hL
    clear hL
    clear hz hy g2
    go_enter Tryd.func7, Tryd.ntmps7
    go_upto_region 11 with (first
      | (go_at_call 37; go_must ((with_reducible refine HAW.out.mono ?_); rintro e w1 ⟨rfl, hb⟩; have H1 := Lib.hid (H0.out.on hb); obtain ⟨c0, c1, c2⟩ := H1.out.bx.1.1.ex; clear hb))
      | (go_at_call 38; go_must ((with_reducible refine (HRR.out _).mono ?_); rintro e w2 ⟨rfl, hb⟩; clear c0 c1 c2; have H2 := Lib.hid (H1.out.on hb); obtain ⟨c0, c1, c2⟩ := H2.out.bx.1.1.ex; clear hb))
      | (go_at_call 39; go_must ((with_reducible refine (HPU.out _ H2.out.tb).mono ?_); intro e w3 hq; obtain ⟨v, rfl, hr, hb⟩ := hq; obtain ⟨Ab, cb, rfl, hpc⟩ := hr.pc; clear c0 c1 c2; have H3 := Lib.hid (H2.out.on hb); have HP3 := Lib.hid hpc; obtain ⟨c0, c1, c2⟩ := H3.out.bx.1.1.ex; clear hb hr hpc))
      | (go_at_call 40; go_must ((with_reducible refine (HIR.out _ H3.out.tb).mono ?_); rintro e w4 ⟨rfl, hb⟩; clear c0 c1 c2; have H4 := Lib.hid (H3.out.on hb); have HP4 := Lib.hid (HP3.out.below hb); clear hb)))
    have R0 := Lib.hid (Row.made w4 [] w4.heap.size w4.heap.size rfl (Nat.le_refl _) (by simp))
    have HP4' := Lib.hid (HP4.out.below (below_box w4 (.cells #[] 5)))
    have hB4 : w4.heap.size ≤ (w4.alloc (.cells #[] 5)).heap.size := (below_box w4 _).size
    go_upto_region 12 with (first
      | (go_at_call 22; go_must ((with_reducible refine (over_all HP6.out.lies hl7).mono ?_); intro e w7 hq; obtain ⟨p, rfl, hpp, hs, hb⟩ := hq; have HS7 := Lib.hid hs; have HB7 := Lib.hid (HB6.out.trans (hb.mono HB6.out.size)); have HB67 := Lib.hid hb; clear hs hb))
      | (have tok := HR5; at_builtin; go_must (refine row_any rfl _ _ rfl w4.heap.size _ ([] ++ y) rfl (HR5.out.later (below_box w5 (.cells #[.int .u8 7] 5))) (some ⟨w5.heap.size, 0, none⟩) 1 1 _ [7] rfl rfl (lies_made w5 [7] (0, 0)) (fun e => by cases e) hl7' (Nat.le_trans HB5.out.size (below_box w5 _).size) ?_; intro v6 w6 hr6 hb6; rw [← HLd.out] at hr6; obtain ⟨A6, c6', rfl, hpc6⟩ := hr6.pc; have HB6 := Lib.hid ((HB5.out.trans ((below_box w5 (.cells #[.int .u8 7] 5)).mono HB5.out.size)).trans hb6); have HP6 := Lib.hid hpc6; clear hr6 hb6 hpc6))
      | (at_builtin; go_must (refine row_any rfl _ _ rfl w4.heap.size _ [] rfl R0.out Ab y.length cb _ y rfl rfl HP4'.out.lies HP4'.out.nil hl0 hB4 ?_; intro v5 w5 hr5 hb5; have HR5 := Lib.hid hr5; have HB5 := Lib.hid ((below_box w4 (.cells #[] 5)).trans hb5); clear hr5 hb5)))
    have hx4 := H4.out.bx.1.1.lt
    have h46 := HB6.out.size
    have h7p := HS7.out.lt
    have hpk : PKE w x p w6.heap.size Ab y w7.heap.size (w7.alloc (.cells #[.pointer (some ⟨p, 0, none⟩)] 54)) :=
      ⟨((H4.out.bx.1.1.below HB7.out).alloc _), ((HP4.out.below HB6.out).lies.below (HB67.out.trans ((below_box w7 _).mono HB67.out.size)) (Nat.le_refl _)), Whole.made _ _ _,
        (bxE_bel H4.out.bx).trans ((HB7.out.trans ((below_box w7 _).mono HB7.out.size)).mono (bxE_bel H4.out.bx).size), by omega, hpp, h7p, Nat.le_trans HB67.out.size (below_box w7 _).size⟩
    have HPK := Lib.hid hpk
    have HS8 := Lib.hid (HS7.out.alloc (.cells #[.pointer (some ⟨p, 0, none⟩)] 54))
    have hb6 : w7.heap.size < (w7.alloc (.cells #[.pointer (some ⟨p, 0, none⟩)] 54)).heap.size := hpk.pt.lt
    clear R0 HP4' HR5 H1 H2 H3 HP3 HB5 HB6 HP6 HAW H0 HRR HIR HPU HP4 H4 HB7 HB67 HS7 hpk hl7 hl7' hl0 hB4
    generalize w7.alloc (.cells #[.pointer (some ⟨p, 0, none⟩)] 54) = W8 at *
    generalize w7.heap.size = b6 at *
    have HV := Lib.hid (valueX_ok (T := fun q W => q = x ∧ PKE w x p w6.heap.size Ab y b6 W ∧ Sc W p L y.length) (cfE1 #[.pointer (some ⟨b6, 0, none⟩)]) (q := p) (w := W8) (by omega)
      (fun q W W' b h1 h2 h3 hg => ⟨h3.1, h3.2.1.grown hg (by omega) (by omega), h3.2.2.grown hg (by simp only [ne_eq, Option.some.injEq]; omega) (fun g e => by injection e with e; omega)⟩)
      (fun W hb hsz => by
        have hW := HPK.out.below hb
        have hS := HS8.out.below hb
        refine (closE1 (x := x) (l := L) (k := y.length) hW.pt (fun W2 hb2 => ?_) hS.lt).mono ?_
        · have h2 := HGT.out W2 p L [7] 0 (hS.below hb2) (TbN.of HTw.out ((hW.below hb2).bel) (Nat.le_of_lt hW.o1) (Nat.le_of_lt (hS.below hb2).lt)) HD.out
          rw [Nat.zero_add] at h2
          exact h2
        · rintro e w' ⟨rfl, hs, hg⟩
          exact ⟨x, rfl, ⟨rfl, hW.grown hg (Nat.le_refl _) (by omega), hs⟩, hg⟩))
    clear HGT HTw
    go_upto_region 13 with (go_at_call 41; go_must ((with_reducible refine HV.out.mono ?_); rintro e w9 ⟨q, rfl, ⟨rfl, hpk, hs⟩, hg⟩; have HPE := Lib.hid (show PEE w q p w6.heap.size Ab y b6 w9.heap.size L y.length ((w9.alloc (.cells (exC q) 78)).alloc (.cells #[.int .i64 0, .int .i64 0] 39)) from ⟨(hpk.below (below_box _ _)).below (below_box _ _), (hs.alloc _).alloc _, (Whole.made _ _ _).alloc _, (made_2 w9 _ _ _)⟩); clear hpk hs hg))
    generalize (w9.alloc (.cells (exC q) 78)).alloc (.cells #[.int .i64 0, .int .i64 0] 39) = W9 at *
    refine wp_region_noPanic ?_
    refine wp_region_held_drew (S := fun W => PEEc w q p w6.heap.size Ab cb y b6 w9.heap.size L y.length W) (by kernel_rfl) ((HPE.out.below (Below.refl _ _).drew).all cb) (fun hHeld => ?_)
    (refine heldTake (i := 0) (oi := { dst := some 47, op := Op.move (Operand.tmp 4), type := 25, pos := "law.go:37", after := #[], guard := none }) (v := ?_) rfl (by kernel_rfl) (by kernel_rfl) (by kernel_rfl) (by assumption) ?_ ?_; rotate_left; focus (refine .inl ⟨by kernel_rfl, ?_⟩; intro w hSw; (try dsimp only at hSw); go_simp; (try with_reducible rfl)); (try simp only [Act.put, List.setIfInBounds_toArray, List.set_cons_zero, List.set_cons_succ]))
    (refine heldTake (i := 1) (oi := { dst := some 48, op := Op.convert 25 9 (Operand.tmp 47), type := 9, pos := "law.go:37", after := #[{ on := 0, ground := Ground.data }], guard := none }) (v := ?_) rfl (by kernel_rfl) (by kernel_rfl) (by kernel_rfl) (by assumption) ?_ ?_; rotate_left; focus (refine .inl ⟨by kernel_rfl, ?_⟩; intro w hSw; (try dsimp only at hSw); go_simp; (try with_reducible rfl)); (try simp only [Act.put, List.setIfInBounds_toArray, List.set_cons_zero, List.set_cons_succ]))
    (refine heldTake (i := 2) (oi := { dst := some 49, op := Op.load 78 (Operand.tmp 1), type := 78, pos := "law.go:37", after := #[], guard := none }) (v := ?_) rfl (by kernel_rfl) (by kernel_rfl) (by kernel_rfl) (by assumption) ?_ ?_; rotate_left; focus (refine .inl ⟨by kernel_rfl, ?_⟩; intro w hSw; (try dsimp only at hSw); go_simp; (try with_reducible rfl)); (try simp only [Act.put, List.setIfInBounds_toArray, List.set_cons_zero, List.set_cons_succ]))
    refine wpAnyH_ready (rs := [3]) (by kernel_rfl) (by simp) ?_
    refine AllReadyH.cons (o := { dst := some 50, op := Op.call { callee := Callee.value (Operand.func 44), args := #[Operand.tmp 49], argTypes := #[78] }, type := 9, pos := "law.go:37", after := #[{ on := 2, ground := Ground.data }], guard := none }) rfl (fun K hK => ?_) AllReadyH.nil
    go_simp
    (go_at_call 44; (with_reducible refine (HRP.out _).mono ?_); rintro e w10 ⟨rfl, hb⟩; have hk10 := (PEE.below (And.left hHeld) hb).all cb; clear hb)
    refine hK.out _ _ hk10 (fun hHeld3 => ?_)
    clear hK K hHeld
    (try simp only [Act.put, List.setIfInBounds_toArray, List.set_cons_zero, List.set_cons_succ])
    (refine heldTake (i := 4) (oi := { dst := some 51, op := Op.binOp BinOp.eql 9 (Operand.tmp 48) (Operand.tmp 50) 9, type := 4, pos := "law.go:37", after := #[{ on := 1, ground := Ground.data }, { on := 3, ground := Ground.data }], guard := none }) (v := ?_) rfl (by kernel_rfl) (by kernel_rfl) (by kernel_rfl) (by assumption) ?_ ?_; rotate_left; focus (refine .inl ⟨by kernel_rfl, ?_⟩; intro w hSw; (try dsimp only at hSw); go_simp; (try with_reducible rfl)); (try simp only [Act.put, List.setIfInBounds_toArray, List.set_cons_zero, List.set_cons_succ]))
    (refine heldTake (i := 5) (oi := { dst := some 52, op := Op.move (Operand.tmp 51), type := 4, pos := "law.go:37", after := #[{ on := 4, ground := Ground.data }, { on := 3, ground := Ground.chain }], guard := none }) (v := ?_) rfl (by kernel_rfl) (by kernel_rfl) (by kernel_rfl) (by assumption) ?_ ?_; rotate_left; focus (refine .inl ⟨by kernel_rfl, ?_⟩; intro w hSw; (try dsimp only at hSw); go_simp; (try with_reducible rfl)); (try simp only [Act.put, List.setIfInBounds_toArray, List.set_cons_zero, List.set_cons_succ]))
    (refine heldTake (i := 6) (oi := { dst := some 53, op := Op.fieldAddr 39 (Operand.tmp 8) 0, type := 0, pos := "law.go:37", after := #[{ on := 5, ground := Ground.guard }], guard := some (5, true) }) (v := ?_) rfl (by kernel_rfl) (by kernel_rfl) (by kernel_rfl) (by assumption) ?_ ?_; rotate_left; focus (refine .inl ⟨by kernel_rfl, ?_⟩; intro w hSw; (try dsimp only at hSw); go_simp; (try with_reducible rfl)); (try simp only [Act.put, List.setIfInBounds_toArray, List.set_cons_zero, List.set_cons_succ]))
    (refine heldTake (i := 7) (oi := { dst := some 54, op := Op.load 37 (Operand.tmp 53), type := 37, pos := "law.go:37", after := #[{ on := 6, ground := Ground.data }, { on := 5, ground := Ground.guard }], guard := some (5, true) }) (v := ?_) rfl (by kernel_rfl) (by kernel_rfl) (by kernel_rfl) (by assumption) ?_ ?_; rotate_left; focus (refine .inl ⟨by kernel_rfl, ?_⟩; intro w hSw; (try dsimp only at hSw); go_simp; (try with_reducible rfl)); (try simp only [Act.put, List.setIfInBounds_toArray, List.set_cons_zero, List.set_cons_succ]))
    (refine heldTake (i := 8) (oi := { dst := some 55, op := Op.binOp BinOp.eql 37 (Operand.tmp 54) (Operand.const (Value.int IntKind.i64 0)) 37, type := 4, pos := "law.go:37", after := #[{ on := 7, ground := Ground.data }, { on := 5, ground := Ground.guard }], guard := some (5, true) }) (v := ?_) rfl (by kernel_rfl) (by kernel_rfl) (by kernel_rfl) (by assumption) ?_ ?_; rotate_left; focus (refine .inl ⟨by kernel_rfl, ?_⟩; intro w hSw; (try dsimp only at hSw); go_simp; (try with_reducible rfl)); (try simp only [Act.put, List.setIfInBounds_toArray, List.set_cons_zero, List.set_cons_succ]))
    (refine heldTake (i := 9) (oi := { dst := some 56, op := Op.pick (Operand.tmp 52) (Operand.tmp 55) (Operand.const (Value.bool false)), type := 4, pos := "law.go:37", after := #[{ on := 5, ground := Ground.data }, { on := 8, ground := Ground.data }], guard := none }) (v := ?_) rfl (by kernel_rfl) (by kernel_rfl) (by kernel_rfl) (by assumption) ?_ ?_; rotate_left; focus (refine .inl ⟨by kernel_rfl, ?_⟩; intro w hSw; (try dsimp only at hSw); go_simp; (try with_reducible rfl)); (try simp only [Act.put, List.setIfInBounds_toArray, List.set_cons_zero, List.set_cons_succ]))
    (refine heldTake (i := 10) (oi := { dst := some 57, op := Op.move (Operand.tmp 56), type := 4, pos := "law.go:37", after := #[{ on := 9, ground := Ground.data }, { on := 5, ground := Ground.chain }], guard := none }) (v := ?_) rfl (by kernel_rfl) (by kernel_rfl) (by kernel_rfl) (by assumption) ?_ ?_; rotate_left; focus (refine .inl ⟨by kernel_rfl, ?_⟩; intro w hSw; (try dsimp only at hSw); go_simp; (try with_reducible rfl)); (try simp only [Act.put, List.setIfInBounds_toArray, List.set_cons_zero, List.set_cons_succ]))
    (refine heldTake (i := 11) (oi := { dst := some 58, op := Op.load 78 (Operand.tmp 7), type := 78, pos := "law.go:37", after := #[{ on := 10, ground := Ground.guard }], guard := some (10, true) }) (v := ?_) rfl (by kernel_rfl) (by kernel_rfl) (by kernel_rfl) (by assumption) ?_ ?_; rotate_left; focus (refine .inl ⟨by kernel_rfl, ?_⟩; intro w hSw; (try dsimp only at hSw); go_simp; (try with_reducible rfl)); (try simp only [Act.put, List.setIfInBounds_toArray, List.set_cons_zero, List.set_cons_succ]))
    (refine heldTake (i := 12) (oi := { dst := some 59, op := Op.load 78 (Operand.tmp 1), type := 78, pos := "law.go:37", after := #[{ on := 10, ground := Ground.guard }], guard := some (10, true) }) (v := ?_) rfl (by kernel_rfl) (by kernel_rfl) (by kernel_rfl) (by assumption) ?_ ?_; rotate_left; focus (refine .inl ⟨by kernel_rfl, ?_⟩; intro w hSw; (try dsimp only at hSw); go_simp; (try with_reducible rfl)); (try simp only [Act.put, List.setIfInBounds_toArray, List.set_cons_zero, List.set_cons_succ]))
    refine wpAnyH_ready (rs := [13]) (by kernel_rfl) (by simp) ?_
    refine AllReadyH.cons (o := { dst := some 60, op := Op.call { callee := Callee.value (Operand.func 45), args := #[Operand.tmp 58, Operand.tmp 59], argTypes := #[78, 78] }, type := 4, pos := "law.go:37", after := #[{ on := 11, ground := Ground.data }, { on := 12, ground := Ground.data }, { on := 10, ground := Ground.chain }, { on := 10, ground := Ground.guard }], guard := some (10, true) }) rfl (fun K hK => ?_) AllReadyH.nil
    go_simp
    (go_at_call 45; (with_reducible refine (HSm.out _).mono ?_); rintro e w11 ⟨rfl, hb⟩; have hk11 := (PEE.below (And.left hHeld3) hb).all cb; clear hb)
    refine hK.out _ _ hk11 (fun hHeld13 => ?_)
    clear hK K hHeld3
    (try simp only [Act.put, List.setIfInBounds_toArray, List.set_cons_zero, List.set_cons_succ])
    (refine heldTake (i := 14) (oi := { dst := some 61, op := Op.pick (Operand.tmp 57) (Operand.tmp 60) (Operand.const (Value.bool false)), type := 4, pos := "law.go:37", after := #[{ on := 10, ground := Ground.data }, { on := 13, ground := Ground.data }], guard := none }) (v := ?_) rfl (by kernel_rfl) (by kernel_rfl) (by kernel_rfl) (by assumption) ?_ ?_; rotate_left; focus (refine .inl ⟨by kernel_rfl, ?_⟩; intro w hSw; (try dsimp only at hSw); go_simp; (try with_reducible rfl)); (try simp only [Act.put, List.setIfInBounds_toArray, List.set_cons_zero, List.set_cons_succ]))
    (refine heldTake (i := 15) (oi := { dst := some 62, op := Op.move (Operand.tmp 61), type := 4, pos := "law.go:37", after := #[{ on := 14, ground := Ground.data }, { on := 13, ground := Ground.chain }], guard := none }) (v := ?_) rfl (by kernel_rfl) (by kernel_rfl) (by kernel_rfl) (by assumption) ?_ ?_; rotate_left; focus (refine .inl ⟨by kernel_rfl, ?_⟩; intro w hSw; (try dsimp only at hSw); go_simp; (try with_reducible rfl)); (try simp only [Act.put, List.setIfInBounds_toArray, List.set_cons_zero, List.set_cons_succ]))
    (refine heldTake (i := 16) (oi := { dst := some 63, op := Op.load 54 (Operand.tmp 6), type := 54, pos := "law.go:37", after := #[{ on := 15, ground := Ground.guard }], guard := some (15, true) }) (v := ?_) rfl (by kernel_rfl) (by kernel_rfl) (by kernel_rfl) (by assumption) ?_ ?_; rotate_left; focus (refine .inl ⟨by kernel_rfl, ?_⟩; intro w hSw; (try dsimp only at hSw); go_simp; (try with_reducible rfl)); (try simp only [Act.put, List.setIfInBounds_toArray, List.set_cons_zero, List.set_cons_succ]))
    refine wpAnyH_ready (rs := [17]) (by kernel_rfl) (by simp) ?_
    refine AllReadyH.cons (o := { dst := some 64, op := Op.call { callee := Callee.value (Operand.func 28), args := #[Operand.tmp 63], argTypes := #[54] }, type := 3, pos := "law.go:37", after := #[{ on := 16, ground := Ground.data }, { on := 15, ground := Ground.chain }, { on := 15, ground := Ground.guard }], guard := some (15, true) }) rfl (fun K hK => ?_) AllReadyH.nil
    go_simp
    (go_at_call 28; (with_reducible refine (HLf.out _ p (And.left hHeld13).sc).mono ?_); rintro e w12 ⟨rfl, m, rfl⟩; have hk12 := (PEE.below (And.left hHeld13) (below_drewN (Below.refl _ _) m)).all cb)
    refine hK.out _ _ hk12 (fun hHeld17 => ?_)
    clear hK K hHeld13
    (try simp only [Act.put, List.setIfInBounds_toArray, List.set_cons_zero, List.set_cons_succ])
    (refine heldTake (i := 18) (oi := { dst := some 65, op := Op.binOp BinOp.eql 3 (Operand.tmp 64) (Operand.const (Value.int IntKind.i64 1)) 3, type := 4, pos := "law.go:37", after := #[{ on := 17, ground := Ground.data }, { on := 15, ground := Ground.guard }], guard := some (15, true) }) (v := ?_) rfl (by kernel_rfl) (by kernel_rfl) (by kernel_rfl) (by assumption) ?_ ?_; rotate_left; focus (refine .inl ⟨by kernel_rfl, ?_⟩; intro w hSw; (try dsimp only at hSw); go_simp; (try with_reducible rfl)); (try simp only [Act.put, List.setIfInBounds_toArray, List.set_cons_zero, List.set_cons_succ]))
    (refine heldTake (i := 19) (oi := { dst := some 66, op := Op.pick (Operand.tmp 62) (Operand.tmp 65) (Operand.const (Value.bool false)), type := 4, pos := "law.go:37", after := #[{ on := 15, ground := Ground.data }, { on := 18, ground := Ground.data }], guard := none }) (v := ?_) rfl (by kernel_rfl) (by kernel_rfl) (by kernel_rfl) (by assumption) ?_ ?_; rotate_left; focus (refine .inl ⟨by kernel_rfl, ?_⟩; intro w hSw; (try dsimp only at hSw); go_simp; (try with_reducible rfl)); (try simp only [Act.put, List.setIfInBounds_toArray, List.set_cons_zero, List.set_cons_succ]))
    (refine heldTake (i := 20) (oi := { dst := some 2, op := Op.assign (Operand.tmp 66), type := 4, pos := "law.go:37", after := #[{ on := 19, ground := Ground.data }, { on := 17, ground := Ground.chain }, { on := 0, ground := Ground.phase }, { on := 1, ground := Ground.phase }, { on := 2, ground := Ground.phase }, { on := 3, ground := Ground.phase }, { on := 4, ground := Ground.phase }, { on := 5, ground := Ground.phase }, { on := 6, ground := Ground.phase }, { on := 7, ground := Ground.phase }, { on := 8, ground := Ground.phase }, { on := 9, ground := Ground.phase }, { on := 10, ground := Ground.phase }, { on := 11, ground := Ground.phase }, { on := 12, ground := Ground.phase }, { on := 13, ground := Ground.phase }, { on := 14, ground := Ground.phase }, { on := 15, ground := Ground.phase }, { on := 16, ground := Ground.phase }, { on := 17, ground := Ground.phase }, { on := 18, ground := Ground.phase }, { on := 19, ground := Ground.phase }], guard := none }) (v := ?_) rfl (by kernel_rfl) (by kernel_rfl) (by kernel_rfl) (by assumption) ?_ ?_; rotate_left; focus (refine .inl ⟨by kernel_rfl, ?_⟩; intro w hSw; (try dsimp only at hSw); go_simp; (try with_reducible rfl)); (try simp only [Act.put, List.setIfInBounds_toArray, List.set_cons_zero, List.set_cons_succ]))
    refine wpAnyH_done (by kernel_rfl) ?_ _
    refine NoPanic.normal ?_
    have hLast := hHeld17
    clear hHeld17
    go_wp2
    go_ret
    exact ⟨rfl, (And.left hLast).a.bel⟩
  · rw [if_neg hz] at HPU
    have dz : (rE x != 0) = true := zb_of (by simpa using hz)
    generalize rE x = z at *
    clear hz g2 HRP hlen
    go_enter Tryd.func7, Tryd.ntmps7
    go_wp2_with (first
      | (go_at_call 37; go_must ((with_reducible refine HAW.out.mono ?_); rintro e w1 ⟨rfl, hb⟩; have H1 := Lib.hid (H0.out.on hb); obtain ⟨c0, c1, c2⟩ := H1.out.bx.1.1.ex; clear hb))
      | (go_at_call 38; go_must ((with_reducible refine (HRR.out _).mono ?_); rintro e w2 ⟨rfl, hb⟩; clear c0 c1 c2; have H2 := Lib.hid (H1.out.on hb); obtain ⟨c0, c1, c2⟩ := H2.out.bx.1.1.ex; clear hb))
      | (go_at_call 39; go_must ((with_reducible refine (HPU.out _ H2.out.tb).mono ?_); intro e w3 hq; obtain ⟨v, rfl, hr, hb⟩ := hq; obtain ⟨Ab, cb, rfl, _⟩ := hr.pc; clear c0 c1 c2; have H3 := Lib.hid (H2.out.on hb); obtain ⟨c0, c1, c2⟩ := H3.out.bx.1.1.ex; clear hb hr))
      | (go_at_call 40; go_must ((with_reducible refine (HIR.out _ H3.out.tb).mono ?_); rintro e w4 ⟨rfl, hb⟩; clear c0 c1 c2; have H4 := Lib.hid (H3.out.on hb); clear hb)))
    go_ret
    exact ⟨rfl, bxE_bel H4.out.bx⟩
end Go.Proofs.YtanddfkhokcepaaDoor
