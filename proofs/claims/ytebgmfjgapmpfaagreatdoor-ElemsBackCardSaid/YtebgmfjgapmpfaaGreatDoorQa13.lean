/- A global that was written is read. -/
import Derived.Test.YtebgmfjgapmpfaaGreatDoorQa12
import Derived.Test.YtebgmfjgapmpfaaGreatDoorQa11
import Derived.Deep.CutBlock
import Derived.Deep.DeepCutAuto
import Derived.ProofKit
import Derived.Test.YtebgmfjgapmpfaaGreatDoorQa01
import Derived.OpenShut
import Derived.ShutString
import Derived.ChangeOld
import Derived.ChangeSame
import Derived.Deep.Slices
import Derived.Deep.Fields
import Derived.Lib.SmallJoins
import Derived.Test.YtebgmfjgapmpfaaGreatDoorQa02
import Derived.Test.YtebgmfjgapmpfaaGreatDoorQa09
import Derived.Test.YtebgmfjgapmpfaaGreatDoorQa10
import Derived.Test.YtebgmfjgapmpfaaGreatDoorQa07
import Derived.Test.YtebgmfjgapmpfaaGreatDoorQa06
import Derived.Test.YtebgmfjgapmpfaaGreatDoorQa08
namespace Go.Proofs.YtebgmfjgapmpfaaGreatDoor
open Go.RowKit
set_option linter.unusedVariables false
set_option maxRecDepth 100000

theorem gR_at {l r : List UInt8} {k : Nat} {x : Gl} (oi : x.i.Ok) (h0 : rG x = 0) (h : l.drop k = gputL x ++ r) : gR l k = .ok x (k + (gputL x).length) := by
  obtain ⟨h1, h2⟩ := rG_zero h0
  have he : (encG (x.t.toNat : Int) x.m).length = 2 := rfl
  have hd : l.drop k = encG x.t.toNat x.m ++ (cputL x.i ++ r) := by rw [h]; unfold gputL; rw [List.append_assoc]
  have hd2 := drop_past hd
  rw [he] at hd2
  unfold gR
  rw [globR_at hd h1, Res.bind_ok, readR_at oi h2 hd2, Res.bind_ok]
  unfold gputL
  rw [List.length_append, he, Nat.add_assoc]
end Go.Proofs.YtebgmfjgapmpfaaGreatDoor

/- The walk of GlobalsBack. -/
namespace Go.Proofs.YtebgmfjgapmpfaaGreatDoor
open Go.RowKit
set_option linter.unusedVariables false
set_option maxRecDepth 100000

theorem takeG_one {l : List SlotG} {k : Nat} {x : SlotG} (h : l[k]? = some x) : l.take (k + 1) = l.take k ++ [x] := by rw [List.take_add_one, h]; rfl
theorem gsK_at {l : List UInt8} : ∀ (rows : List SlotG) (k : Nat) (acc : List Gl) (r : List UInt8), OkG rows → errG rows = 0 → l.drop k = gputsL rows ++ r → gsK l rows.length k acc = .ok (acc ++ rows.map (·.1)) (k + (gputsL rows).length)
  | [], k, acc, r, _, _, _ => by simp [gsK, gputsL]
  | x :: rows, k, acc, r, ho, h0, h => by
    have z := errG_mem h0 x (by simp)
    have h5 : errG rows = 0 := by simpa [errG, z] using h0
    have hd : l.drop k = sputL x ++ (gputsL rows ++ r) := by rw [h]; unfold gputsL; rw [List.flatMap_cons, List.append_assoc]
    have hg := gR_at (ho x (by simp)).1 z hd
    have hd2 := drop_past hd
    have ih := gsK_at rows _ (acc ++ [x.1]) r (fun y hy => ho y (List.mem_cons_of_mem _ hy)) h5 hd2
    rw [List.length_cons]
    show (gR l k).bind (fun x q2 => gsK l rows.length q2 (acc ++ [x])) = _
    rw [hg, Res.bind_ok]
    have e : k + (gputL x.1).length = k + (sputL x).length := rfl
    rw [e, ih]
    unfold gputsL
    rw [List.flatMap_cons, List.length_append, List.map_cons, List.append_assoc, List.singleton_append, Nat.add_assoc]
/-- What PutAll wrote is read. -/
theorem allR_at {rows : List SlotG} (ho : OkG rows) (h0 : errG rows = 0) (hn : rows.length ≤ 10000) : allR (allG rows) 0 = .ok (rows.map (·.1)) (allG rows).length := by
  have hd : (allG rows).drop 0 = lebL (rows.length : Int) ++ gputsL rows := rfl
  have h1 := countR_at hd (by omega) (by omega)
  rw [Nat.zero_add] at h1
  have h2 := drop_past hd
  rw [Nat.zero_add] at h2
  unfold allR
  rw [h1, Res.bind_ok, Int.toNat_natCast, gsK_at rows _ [] [] ho h0 (by rw [List.append_nil]; exact h2), Res.bind_ok, List.nil_append]
  have e : (lebL (rows.length : Int)).length + (gputsL rows).length = (allG rows).length := by unfold allG; rw [List.length_append]
  rw [e, if_neg (by omega)]
/-- What the law keeps once the list is read. -/
structure BKG (w : World) (N base : Nat) (xs : List Gl) (A2 : Option Addr) (c2 : Nat) (B : Nat) (Ab : Option Addr) (y : List UInt8) (W : World) : Prop where
  bel : Below w.heap.size w W
  r : ∃ rows, RowG W base (.slice A2 N c2) rows ∧ rows.map (·.1) = xs
  ly : Lies W B Ab (cells (nums y))
  o : B ≤ W.heap.size
theorem BKG.grown {w W W' : World} {N base B c2 q : Nat} {xs : List Gl} {A2 Ab : Option Addr} {y : List UInt8} (h : BKG w N base xs A2 c2 B Ab y W) (hg : W.grownBy W' (some q)) (h1 : w.heap.size ≤ q) (h2 : q < base) (h3 : B ≤ q) : BKG w N base xs A2 c2 B Ab y W' :=
  ⟨below_new h.bel hg h1, (by obtain ⟨rows, r1, r2⟩ := h.r; exact ⟨rows, r1.past hg h2, r2⟩), h.ly.grown hg h.o (fun g e => by injection e with e; omega), Nat.le_trans h.o hg.size⟩
theorem BKG.below {w W W' : World} {N base B c2 : Nat} {xs : List Gl} {A2 Ab : Option Addr} {y : List UInt8} (h : BKG w N base xs A2 c2 B Ab y W) (hb : Below W.heap.size W W') : BKG w N base xs A2 c2 B Ab y W' :=
  ⟨h.bel.trans (hb.mono h.bel.size), (by obtain ⟨rows, r1, r2⟩ := h.r; exact ⟨rows, r1.later hb, r2⟩), h.ly.below hb h.o, Nat.le_trans h.o hb.size⟩
set_option maxHeartbeats 8000000 in
theorem lawGB {w : World} {A : Option Addr} {c : Nat} {l : List SlotG} (hl : Gs w A l) (ho : OkG l) (hT : Tabs w) (nl : (l.length : Int) ≤ 9223372036854775807) :
    Calls Tryz.prog 4 #[.slice A l.length c] w fun e w' => e = .returned (.bool true) ∧ Below w.heap.size w w' := by
  have HAW := Lib.hid (gawake_any w hT)
  have HL := Lib.hid hl
  have HTw := Lib.hid hT
  have HO := Lib.hid ho
  clear hl hT ho
  by_cases g1 : 20 < l.length
  · have t1 : decide ((20 : Int) < (l.length : Int)) = true := decide_eq_true (by omega)
    clear g1
    go_enter Tryz.func4, Tryz.ntmps4
    go_wp2_with (go_at_call 8; go_must ((with_reducible refine HAW.out.mono ?_); rintro e w1 ⟨rfl, hb⟩; have H1 := Lib.hid hb; clear hb))
    go_ret
    exact ⟨rfl, H1.out⟩
  have t1 : decide ((20 : Int) < (l.length : Int)) = false := decide_eq_false (by omega)
  have HRC := Lib.hid (fun W => rcount_gl l.length W (by omega))
  have hlb := lebL_len (l.length : Int) (by omega)
  obtain ⟨hd, hhd⟩ : ∃ hd, hd = lebL (l.length : Int) := ⟨_, rfl⟩
  rw [← hhd] at HRC hlb
  have HAL := Lib.hid (show allG l = hd ++ gputsL l by rw [hhd]; rfl)
  obtain ⟨n, hn⟩ : ∃ n, n = l.length := ⟨_, rfl⟩
  have HN := Lib.hid hn
  have HE := Lib.hid (show l.take n = l by rw [hn, List.take_length])
  have h20 : n ≤ 20 := by omega
  rw [← hn] at t1 HRC ⊢
  clear hn hhd g1 nl
  go_enter Tryz.func4, Tryz.ntmps4
  go_wp2_with (first
    | (go_at_call 8; go_must ((with_reducible refine HAW.out.mono ?_); rintro e w1 ⟨rfl, hb⟩; have H1 := Lib.hid hb; clear hb))
    | (go_at_call 15; go_must ((with_reducible refine (HRC.out _).mono ?_); rintro e w2 ⟨rfl, hb⟩; have H2 := Lib.hid (H1.out.trans (hb.mono H1.out.size)); clear hb)))
  go_loopw [3, 4, 5] (fun code want i wr => ∃ (k : Nat) (t : List UInt8), k ≤ n ∧ i = .int .i64 k ∧ code = .int .i64 (errG (l.take k)) ∧ want = .string (S t) ∧ t.length ≤ 10 + k * 34 ∧ (errG (l.take k) = 0 → t = hd ++ gputsL (l.take k)) ∧ Below w.heap.size w wr) (fun _ _ i _ => n - (intOf i).toNat)
  case atStart => exact ⟨0, hd, Nat.zero_le _, rfl, rfl, rfl, by omega, (fun _ => by simp [gputsL]), H2.out⟩
  case round =>
    obtain ⟨k, t, hk, rfl, rfl, rfl, htl, htb, hb⟩ := hrel
    have hz1 := hb.size
    by_cases hlt : k < n
    · obtain ⟨x, hx⟩ : ∃ x, l[k]? = some x := ⟨_, List.getElem?_eq_getElem (by rw [← HN.out]; exact hlt)⟩
      obtain ⟨b, off, rfl, hbl, m0, m1, m2, m3, m4, m5⟩ := (HL.out.below hb).six hx
      have hxo := HO.out x (List.mem_of_getElem? hx)
      have HBA := Lib.hid (hb.alloc hz1 (.cells (sC x) 46))
      have hstep := errG_snoc hx
      have hpsn := gputsL_snoc hx
      by_cases b2 : 100 < x.1.i.l.length
      · have t3 : decide ((100 : Int) < (x.1.i.l.length : Int)) = true := decide_eq_true (by omega)
        clear b2 htb hb hx hstep hpsn htl hxo
        go_wp2
        go_ret
        exact ⟨rfl, HBA.out⟩
      have t3 : decide ((100 : Int) < (x.1.i.l.length : Int)) = false := decide_eq_false (by omega)
      have HRR := Lib.hid (rgright_any x.1 x.2.1 x.2.2 (wr.alloc (.cells (sC x) 46)) hxo.1 hxo.2)
      have HW := Lib.hid (Whole.made wr 46 (sC x))
      by_cases e0 : errG (l.take k) = 0
      · rw [if_neg (by simpa using e0)] at hstep
        have ht := htb e0
        have d0 : (errG (l.take k) == 0) = true := by simpa using e0
        obtain ⟨q, hq⟩ : ∃ q, q = errG (l.take k) := ⟨_, rfl⟩
        rw [← hq] at d0 ⊢
        by_cases z0 : rS x = 0
        · have HRP := Lib.hid (fun W => rput_gl x.1 x.2.1 x.2.2 W hxo.1 z0)
          have hil := sputL_len hxo z0
          rw [show rG x.1 = 0 from z0] at HRR
          rw [z0] at hstep
          have HSTEP := Lib.hid hstep
          have HTT := Lib.hid ht
          have HPS := Lib.hid hpsn
          obtain ⟨y, hy⟩ : ∃ y, y = sputL x := ⟨_, rfl⟩
          rw [show gputL x.1 = y from hy.symm] at HRP
          rw [← hy] at hil HPS
          have st := S_size t
          have sy := S_size y
          have q1 : ¬ 9223372036854775807 < (S t).size + (S y).size := by omega
          clear b2 htb hb hx hstep hpsn e0 hq ht hy z0 st sy hxo
          go_wp2_with (first
            | (go_at_call 16; go_must ((with_reducible refine HRR.out.mono ?_); rintro e w3 ⟨rfl, hb⟩; have H3 := Lib.hid (HBA.out.trans (hb.mono HBA.out.size)); obtain ⟨c0, c1, c2, c3, c4, c5⟩ := (show Whole w3 wr.heap.size 46 (glC x.1 x.2.1 x.2.2) from HW.out.below hb).gl; clear hb))
            | (go_at_call 17; go_must ((with_reducible refine (HRP.out _).mono ?_); rintro e w4 ⟨rfl, hb⟩; have H4 := Lib.hid (H3.out.trans (hb.mono H3.out.size)); clear hb)))
          go_roundw
          case rel => exact ⟨k + 1, t ++ y, by omega, by go_num, by rw [HSTEP.out], by rw [S_append], by rw [List.length_append]; omega, fun _ => by rw [HPS.out, HTT.out, List.append_assoc], H4.out⟩
          case measure => simp [intOf]; omega
        · have HSTEP := Lib.hid hstep
          have HZN := Lib.hid z0
          have d1 : (rS x == 0) = false := by simpa using z0
          obtain ⟨z, hz⟩ : ∃ z, z = rS x := ⟨_, rfl⟩
          rw [show rG x.1 = z from hz.symm] at HRR
          rw [← hz] at HSTEP HZN d1
          clear b2 htb hb hx hstep hpsn e0 hq ht z0 hz hxo
          go_wp2_with (go_at_call 16; go_must ((with_reducible refine HRR.out.mono ?_); rintro e w3 ⟨rfl, hb⟩; have H3 := Lib.hid (HBA.out.trans (hb.mono HBA.out.size)); clear hb))
          go_roundw
          case rel => exact ⟨k + 1, t, by omega, by go_num, by rw [HSTEP.out], rfl, by omega, fun e => absurd (HSTEP.out.symm.trans e) HZN.out, H3.out⟩
          case measure => simp [intOf]; omega
      · rw [if_pos e0] at hstep
        have HSTEP := Lib.hid hstep
        have HCN := Lib.hid e0
        have d0 : (errG (l.take k) == 0) = false := by simpa using e0
        obtain ⟨q, hq⟩ : ∃ q, q = errG (l.take k) := ⟨_, rfl⟩
        rw [← hq] at d0 HSTEP HCN ⊢
        clear b2 htb hb hx hstep hpsn e0 hq hxo HRR
        go_wp2
        go_roundw
        case rel => exact ⟨k + 1, t, by omega, by go_num, by rw [HSTEP.out], rfl, by omega, fun e => absurd (HSTEP.out.symm.trans e) HCN.out, HBA.out⟩
        case measure => simp [intOf]; omega
    · obtain rfl : k = n := by omega
      rw [HE.out] at htb ⊢
      have HB := Lib.hid hb
      have hpa := putall_gl (c := c) (HL.out.below hb) (HTw.out.below hb) HO.out (by rw [← HN.out]; omega)
      rw [← HN.out] at hpa
      unfold PuttedAllG at hpa
      by_cases e0 : errG l = 0
      · have ht := (htb e0).trans HAL.out.symm
        rw [if_pos e0, e0] at hpa
        have HGA := Lib.hid (show allR (allG l) 0 = .ok (l.map (·.1)) (allG l).length from allR_at HO.out e0 (by rw [← HN.out]; omega))
        have HNL := Lib.hid (fun g (hg : g ∈ l.map (·.1)) => show g.i.l = [] from by
          obtain ⟨x, hx, rfl⟩ := List.mem_map.1 hg
          exact cz_nil (rG_zero (errG_mem e0 x hx)).2)
        rw [e0]
        have htl2 : (allG l).length ≤ 1000000 := by rw [← ht]; omega
        rw [ht]
        obtain ⟨y, hy⟩ : ∃ y, y = allG l := ⟨_, rfl⟩
        rw [← hy] at hpa HGA htl2 ⊢
        have HPA := Lib.hid hpa
        clear hpa htb hb e0 ht hy htl hlt
        go_upto_region 20 with (first
          | (go_at_call 18; go_must ((with_reducible refine HPA.out.mono ?_); intro e w3 hq; obtain ⟨v, rfl, hr, hb⟩ := hq; obtain ⟨Ab, cb, rfl, hpc⟩ := hr.pc; have H3 := Lib.hid (HB.out.trans (hb.mono HB.out.size)); have HP3 := Lib.hid hpc; clear hb hr hpc))
          | (go_at_call 9; go_must ((with_reducible refine (over_any HP3.out.lies HP3.out.nil htl2).mono ?_); intro e w7 hq; obtain ⟨p, rfl, hpp, hs, hb⟩ := hq; have HS7 := Lib.hid hs; have HB37 := Lib.hid hb; have HB7 := Lib.hid (H3.out.trans (hb.mono H3.out.size)); clear hs hb)))
        have h7p := HS7.out.lt
        have h3z := H3.out.size
        have HS8 := Lib.hid (HS7.out.alloc (.cells #[.pointer (some ⟨p, 0, none⟩)] 24))
        have HPT := Lib.hid (Whole.made w7 24 #[.pointer (some ⟨p, 0, none⟩)])
        have HB8 := Lib.hid (HB7.out.trans ((below_box w7 (.cells #[.pointer (some ⟨p, 0, none⟩)] 24)).mono HB7.out.size))
        have HL8 := Lib.hid (HP3.out.lies.below (HB37.out.trans ((below_box w7 (.cells #[.pointer (some ⟨p, 0, none⟩)] 24)).mono HB37.out.size)) (Nat.le_refl _))
        have h8 : w3.heap.size ≤ (w7.alloc (.cells #[.pointer (some ⟨p, 0, none⟩)] 24)).heap.size := Nat.le_trans HB37.out.size (below_box w7 _).size
        have h87 : w7.heap.size < (w7.alloc (.cells #[.pointer (some ⟨p, 0, none⟩)] 24)).heap.size := HPT.out.lt
        clear HAW H1 H2 HB HPA H3 HP3 HB37 HB7 HS7
        generalize w7.alloc (.cells #[.pointer (some ⟨p, 0, none⟩)] 24) = W8 at *
        generalize w7.heap.size = b6 at *
        have HV := Lib.hid (valueGs_ok (T := fun v W => v.2.1 = l.length ∧ BKG w l.length (W8.heap.size + 4) (l.map (fun x : SlotG => x.1)) v.1 v.2.2 w3.heap.size Ab y W) (cfG2 #[.pointer (some ⟨b6, 0, none⟩)]) (q := p) (w := W8) (by omega)
          (fun q W W' b h1 h2 h3 hg => ⟨h3.1, h3.2.grown hg (by omega) (by omega) (by omega)⟩)
          (fun W hb hsz => by
            have hS := HS8.out.below hb
            have hB := HB8.out.trans (hb.mono HB8.out.size)
            have hcl := closG2 (HPT.out.below hb) hS (show TbP p W from ⟨w, HTw.out, by omega, hB⟩)
            rw [HGA.out] at hcl
            refine hcl.mono ?_
            rintro e w' ⟨v, rows, rfl, hr, hm, hs, hg⟩
            obtain ⟨A2, c2, rfl⟩ := hr.slice
            have hrl : rows.length = l.length := by have := congrArg List.length hm; rwa [List.length_map, List.length_map] at this
            rw [hrl] at hr ⊢
            exact ⟨(A2, l.length, c2), rfl, ⟨rfl, below_new hB hg (by omega), ⟨rows, hr.mono hsz, hm⟩, (HL8.out.below hb h8).grown hg (Nat.le_trans h8 hb.size) (fun g e => by injection e with e; omega), Nat.le_trans h8 (Nat.le_trans hb.size hg.size)⟩, hg⟩))
        clear HGA HS8 HPT HL8
        go_upto_region 21 with (go_at_call 10; go_must ((with_reducible refine HV.out.mono ?_); rintro e w9 ⟨⟨A2, n2, c2⟩, rfl, ⟨hn2, hbk⟩, hg⟩; have HN2 := Lib.hid hn2; clear hn2; have HBK := Lib.hid (hbk.below (below_box w9 (.cells #[.int .i64 0, .int .i64 0] 32))); have k0 := (Whole.made w9 32 #[.int .i64 0, .int .i64 0]).cell 0; clear hbk hg))
        simp only [List.getElem?_toArray, List.getElem?_cons_zero] at k0
        have hn3 : n2 = k := HN2.out.trans HN.out.symm
        clear HN2
        subst hn3
        generalize w9.alloc (.cells #[.int .i64 0, .int .i64 0] 32) = W10 at *
        have hcv := str_any HBK.out.ly cb 9 Tryz.underlying9
        have HI := Lib.hid (HL.out.below HBK.out.bel)
        obtain ⟨rows, hrr, hrm⟩ := HBK.out.r
        have HJ := Lib.hid (show Gs W10 A2 rows from hrr.gs)
        have HRM := Lib.hid hrm
        have HSM := Lib.hid (fun W (g : Gl) (A2 A3 : Option Addr) (c2 c3 : Nat) (h : g.i.l = []) => rsame_gl (w := W) (x := g) (A := A2) (B := A3) (c := c2) (d := c3) h)
        clear hrr hrm
        clear HV HB8
        go_wp2
        clear hcv k0
        go_loopw [12] (fun i wr => ∃ j : Nat, j ≤ n2 ∧ i = .int .i64 j ∧ Below w.heap.size w wr ∧ Gs wr A l ∧ Gs wr A2 rows) (fun i _ => n2 - (intOf i).toNat)
        case atStart => exact ⟨0, Nat.zero_le _, rfl, HBK.out.bel, HI.out, HJ.out⟩
        case round =>
          obtain ⟨j, hj, rfl, hb, hi, hjj⟩ := hrel
          by_cases hlt : j < n2
          · obtain ⟨g, a1, a2, d1, d2, hx, hy⟩ := both_at HRM.out.symm (by rw [← HN.out]; exact hlt : j < l.length)
            have hgn : g.i.l = [] := HNL.out g (List.mem_map.2 ⟨_, List.mem_of_getElem? hx, rfl⟩)
            obtain ⟨b, off, hA, _⟩ := hi.six hx
            obtain ⟨b2, off2, hA2, _⟩ := hjj.six hy
            have hS0 := twoG_of hb hi hjj hA hA2 hx hy
            have HS0 := Lib.hid (twoG_on hS0 hA hA2 hx hy (Below.refl _ _).drew)
            have HON := Lib.hid (fun W W' (h : TwoG w A A2 l rows b off b2 off2 j g a1 a2 d1 d2 W) (hb : Below W.heap.size W W') => twoG_on h hA hA2 hx hy hb)
            have HSg := Lib.hid (fun W => HSM.out W g a2 a1 d2 d1 hgn)
            subst hA; subst hA2
            clear hx hy hb hi hjj hS0 hgn
            go_upto_region 26 with fail
            refine wp_region_noPanic ?_
            refine wp_region_held_drew (S := fun W => TwoG w (some ⟨b, off, none⟩) (some ⟨b2, off2, none⟩) l rows b off b2 off2 j g a1 a2 d1 d2 W) (by kernel_rfl) HS0.out (fun hHeld => ?_)
            (refine heldTake (i := 0) (oi := { dst := some 94, op := Op.move (Operand.tmp 10), type := 29, pos := "law.go:97", after := #[], guard := none }) (v := ?_) rfl (by kernel_rfl) (by kernel_rfl) (by kernel_rfl) (by assumption) ?_ ?_; rotate_left; focus (refine .inl ⟨by kernel_rfl, ?_⟩; intro w hSw; (try dsimp only at hSw); go_simp; (try with_reducible rfl)); (try simp only [Act.put, List.setIfInBounds_toArray, List.set_cons_zero, List.set_cons_succ]))
            (refine heldTake (i := 1) (oi := { dst := some 95, op := Op.move (Operand.tmp 12), type := 3, pos := "law.go:97", after := #[], guard := none }) (v := ?_) rfl (by kernel_rfl) (by kernel_rfl) (by kernel_rfl) (by assumption) ?_ ?_; rotate_left; focus (refine .inl ⟨by kernel_rfl, ?_⟩; intro w hSw; (try dsimp only at hSw); go_simp; (try with_reducible rfl)); (try simp only [Act.put, List.setIfInBounds_toArray, List.set_cons_zero, List.set_cons_succ]))
            (refine heldTake (i := 2) (oi := { dst := some 96, op := Op.indexAddr 29 (Operand.tmp 94) (Operand.tmp 95), type := 0, pos := "law.go:97", after := #[{ on := 0, ground := Ground.data }, { on := 1, ground := Ground.data }], guard := none }) (v := ?_) rfl (by kernel_rfl) (by kernel_rfl) (by kernel_rfl) (by assumption) ?_ ?_; rotate_left; focus (refine .inl ⟨by kernel_rfl, ?_⟩; intro w hSw; (try dsimp only at hSw); go_simp; (try with_reducible rfl)); (try simp only [Act.put, List.setIfInBounds_toArray, List.set_cons_zero, List.set_cons_succ]))
            (refine heldTake (i := 3) (oi := { dst := some 97, op := Op.load 46 (Operand.tmp 96), type := 46, pos := "law.go:97", after := #[{ on := 2, ground := Ground.data }], guard := none }) (v := ?_) rfl (by kernel_rfl) (by kernel_rfl) (by kernel_rfl) (by assumption) ?_ ?_; rotate_left; focus (refine .inl ⟨by kernel_rfl, ?_⟩; intro w hSw; (try dsimp only at hSw); go_simp; (try with_reducible rfl)); (try simp only [Act.put, List.setIfInBounds_toArray, List.set_cons_zero, List.set_cons_succ]))
            (refine heldTake (i := 4) (oi := { dst := some 98, op := Op.move (Operand.tmp 0), type := 29, pos := "law.go:97", after := #[], guard := none }) (v := ?_) rfl (by kernel_rfl) (by kernel_rfl) (by kernel_rfl) (by assumption) ?_ ?_; rotate_left; focus (refine .inl ⟨by kernel_rfl, ?_⟩; intro w hSw; (try dsimp only at hSw); go_simp; (try with_reducible rfl)); (try simp only [Act.put, List.setIfInBounds_toArray, List.set_cons_zero, List.set_cons_succ]))
            (refine heldTake (i := 5) (oi := { dst := some 99, op := Op.move (Operand.tmp 12), type := 3, pos := "law.go:97", after := #[], guard := none }) (v := ?_) rfl (by kernel_rfl) (by kernel_rfl) (by kernel_rfl) (by assumption) ?_ ?_; rotate_left; focus (refine .inl ⟨by kernel_rfl, ?_⟩; intro w hSw; (try dsimp only at hSw); go_simp; (try with_reducible rfl)); (try simp only [Act.put, List.setIfInBounds_toArray, List.set_cons_zero, List.set_cons_succ]))
            (refine heldTake (i := 6) (oi := { dst := some 100, op := Op.indexAddr 29 (Operand.tmp 98) (Operand.tmp 99), type := 0, pos := "law.go:97", after := #[{ on := 4, ground := Ground.data }, { on := 5, ground := Ground.data }], guard := none }) (v := ?_) rfl (by kernel_rfl) (by kernel_rfl) (by kernel_rfl) (by assumption) ?_ ?_; rotate_left; focus (refine .inl ⟨by kernel_rfl, ?_⟩; intro w hSw; (try dsimp only at hSw); go_simp; (try with_reducible rfl)); (try simp only [Act.put, List.setIfInBounds_toArray, List.set_cons_zero, List.set_cons_succ]))
            (refine heldTake (i := 7) (oi := { dst := some 101, op := Op.load 46 (Operand.tmp 100), type := 46, pos := "law.go:97", after := #[{ on := 6, ground := Ground.data }], guard := none }) (v := ?_) rfl (by kernel_rfl) (by kernel_rfl) (by kernel_rfl) (by assumption) ?_ ?_; rotate_left; focus (refine .inl ⟨by kernel_rfl, ?_⟩; intro w hSw; (try dsimp only at hSw); go_simp; (try with_reducible rfl)); (try simp only [Act.put, List.setIfInBounds_toArray, List.set_cons_zero, List.set_cons_succ]))
            refine wpAnyH_ready (rs := [8]) (by kernel_rfl) (by simp) ?_
            refine AllReadyH.cons (o := { dst := some 102, op := Op.call { callee := Callee.value (Operand.func 14), args := #[Operand.tmp 97, Operand.tmp 101], argTypes := #[46, 46] }, type := 4, pos := "law.go:97", after := #[{ on := 3, ground := Ground.data }, { on := 7, ground := Ground.data }], guard := none }) rfl (fun K hK => ?_) AllReadyH.nil
            go_simp
            (go_at_call 14; (with_reducible refine (HSg.out _).mono ?_); rintro e w11 ⟨rfl, hb⟩; have hk11 := HON.out _ _ hHeld hb; clear hb)
            refine hK.out _ _ hk11 (fun hHeld8 => ?_)
            clear hK K hHeld
            (try simp only [Act.put, List.setIfInBounds_toArray, List.set_cons_zero, List.set_cons_succ])
            (refine heldTake (i := 9) (oi := { dst := some 103, op := Op.unOp UnOp.not 4 (Operand.tmp 102), type := 4, pos := "law.go:97", after := #[{ on := 8, ground := Ground.data }], guard := none }) (v := ?_) rfl (by kernel_rfl) (by kernel_rfl) (by kernel_rfl) (by assumption) ?_ ?_; rotate_left; focus (refine .inl ⟨by kernel_rfl, ?_⟩; intro w hSw; (try dsimp only at hSw); go_simp; (try with_reducible rfl)); (try simp only [Act.put, List.setIfInBounds_toArray, List.set_cons_zero, List.set_cons_succ]))
            refine wpAnyH_done (by kernel_rfl) ?_ _
            refine NoPanic.normal ?_
            have hLast := hHeld8
            clear hHeld8
            obtain ⟨⟨hb3, hi3, hj3⟩, _⟩ := hLast
            have HB3 := Lib.hid hb3
            have HI3 := Lib.hid hi3
            have HJ3 := Lib.hid hj3
            clear hb3 hi3 hj3
            go_wp2
            go_roundw
            case rel => exact ⟨j + 1, by omega, by go_num, HB3.out, HI3.out, HJ3.out⟩
            case measure => simp [intOf]; omega
          · obtain rfl : j = n2 := by omega
            have HB3 := Lib.hid hb
            clear hb hi hjj
            go_wp2
            go_ret
            exact ⟨rfl, HB3.out⟩
      · rw [if_neg e0] at hpa
        have d0 : (errG l != 0) = true := zb_of (by simpa using e0)
        obtain ⟨z, hz⟩ : ∃ z, z = errG l := ⟨_, rfl⟩
        rw [← hz] at hpa d0 ⊢
        have HPA := Lib.hid hpa
        clear hpa htb hb e0 hz hlt
        go_wp2_with (go_at_call 18; go_must ((with_reducible refine HPA.out.mono ?_); intro e w3 hq; obtain ⟨v, rfl, hr, hb⟩ := hq; obtain ⟨Ab, cb, rfl, _⟩ := hr.pc; have H3 := Lib.hid (HB.out.trans (hb.mono HB.out.size)); clear hb hr))
        go_ret
        exact ⟨rfl, H3.out⟩
end Go.Proofs.YtebgmfjgapmpfaaGreatDoor

/- Numbers of eight and of thirty-two bits, opened. -/
namespace Go.Proofs.YtebgmfjgapmpfaaGreatDoor
set_option linter.unusedVariables false

theorem u8_ex {x : Int} (h : Lit.wf (.int .u8 x) = true) : ∃ a : UInt8, x = a.toNat := by
  have b : 0 ≤ x ∧ x ≤ 255 := by simpa [Lit.wf, IntKind.min, IntKind.max, IntKind.signed, IntKind.bits] using h
  exact ⟨UInt8.ofNat x.toNat, by rw [UInt8.toNat_ofNat']; omega⟩
theorem u32_ex {x : Int} (h : Lit.wf (.int .u32 x) = true) : ∃ a : UInt32, x = a.toNat := by
  have b : 0 ≤ x ∧ x ≤ 4294967295 := by simpa [Lit.wf, IntKind.min, IntKind.max, IntKind.signed, IntKind.bits] using h
  exact ⟨UInt32.ofNat x.toNat, by rw [UInt32.toNat_ofNat']; omega⟩
end Go.Proofs.YtebgmfjgapmpfaaGreatDoor

/- A global by value and a slice of globals, opened. -/
namespace Go.Proofs.YtebgmfjgapmpfaaGreatDoor
open Go.ChangeShapes Go.WideShapes Go.ChangeAt Go.RowKit Go.Joins Go.Deep
set_option linter.unusedVariables false
set_option maxRecDepth 100000

theorem cellsGl : Tryz.prog.cellsOf 46 = 6 := by kernel_rfl
/-- Its numbers are what their kinds hold. -/
def OkS (x : SlotG) : Prop := x.1.i.Ok ∧ (x.1.i.l.length : Int) ≤ 9223372036854775807
section
variable {H : Type} {enc : TypeId × Value → H} {W : World} {sp : Nat → Bool}
theorem open_gty {n : Nat} {c0 c1 : Value} {y : DataW H × List MemPlace} (h : DataW.trod enc Tryz.prog W 0 sp true n 40 [c0, c1] = some y) :
    ∃ (a : UInt8) (q : Bool), c0 = .int .u8 a.toNat ∧ c1 = .bool q := by
  obtain ⟨ys, m, _, hy, hlen, hyl, hf⟩ := DataW.trod_struct Tryz.underlying40 h
  match ys, hyl with
  | [y0, y1], _ =>
    have e1 : Tryz.prog.cellsOf 5 = 1 := by kernel_rfl
    have e2 : Tryz.prog.cellsOf 4 = 1 := by kernel_rfl
    have h0 : DataW.trod enc Tryz.prog W 0 sp true m 5 (([c0, c1].drop 0).take (Tryz.prog.cellsOf 5)) = some y0 := hf 0 _ rfl
    have h1 : DataW.trod enc Tryz.prog W 0 sp true m 4 (([c0, c1].drop 1).take (Tryz.prog.cellsOf 4)) = some y1 := hf 1 _ rfl
    rw [e1] at h0
    rw [e2] at h1
    obtain ⟨x0, q0, _, w0⟩ := DataW.trod_int Tryz.underlying5 h0
    obtain ⟨x1, q1, _⟩ := DataW.trod_bool Tryz.underlying4 h1
    obtain ⟨a, rfl⟩ := u8_ex w0
    exact ⟨a, x1, by simpa using q0, by simpa using q1⟩
/-- The four cells of an instruction. -/
theorem open_el {n : Nat} {c0 c1 c2 c3 : Value} {x : DataW H × List MemPlace} (h : DataW.trod enc Tryz.prog W 0 sp true n 44 [c0, c1, c2, c3] = some x) :
    ∃ (i : I) (B : Option Addr) (c : Nat), c0 = .int .u8 i.op.toNat ∧ c1 = .int .u64 i.a ∧ c2 = .int .u64 i.b ∧ c3 = .slice B i.l.length c ∧ i.Ok ∧ (i.l.length : Int) ≤ 9223372036854775807 := by
  obtain ⟨ys, m, _, hy, hlen, hyl, hf⟩ := DataW.trod_struct Tryz.underlying44 h
  match ys, hyl with
  | [y0, y1, y2, y3], _ =>
    have e1 : Tryz.prog.cellsOf 5 = 1 := by kernel_rfl
    have e2 : Tryz.prog.cellsOf 41 = 1 := by kernel_rfl
    have e3 : Tryz.prog.cellsOf 42 = 1 := by kernel_rfl
    have h0 : DataW.trod enc Tryz.prog W 0 sp true m 5 (([c0, c1, c2, c3].drop 0).take (Tryz.prog.cellsOf 5)) = some y0 := hf 0 _ rfl
    have h1 : DataW.trod enc Tryz.prog W 0 sp true m 41 (([c0, c1, c2, c3].drop 1).take (Tryz.prog.cellsOf 41)) = some y1 := hf 1 _ rfl
    have h2 : DataW.trod enc Tryz.prog W 0 sp true m 41 (([c0, c1, c2, c3].drop 2).take (Tryz.prog.cellsOf 41)) = some y2 := hf 2 _ rfl
    have h3 : DataW.trod enc Tryz.prog W 0 sp true m 42 (([c0, c1, c2, c3].drop 3).take (Tryz.prog.cellsOf 42)) = some y3 := hf 3 _ rfl
    rw [e1] at h0
    rw [e2] at h1 h2
    rw [e3] at h3
    obtain ⟨i, B, c, rfl, rfl, rfl, rfl, ho, _, hn⟩ := open_parts h0 h1 h2 h3
    exact ⟨i, B, c, rfl, rfl, rfl, rfl, ho, hn⟩
/-- Six cells of a global. -/
theorem open_six {n : Nat} {cs : List Value} {x : DataW H × List MemPlace} (h : DataW.trod enc Tryz.prog W 0 sp true n 46 cs = some x) (hc : cs.length = 6) : ∃ s : SlotG, cs = sL s ∧ OkS s := by
  obtain ⟨ys, m, _, hy, hlen, hyl, hf⟩ := DataW.trod_struct Tryz.underlying46 h
  match cs, hc with
  | [c0, c1, c2, c3, c4, c5], _ =>
    match ys, hyl with
    | [y0, y1], _ =>
      have e1 : Tryz.prog.cellsOf 40 = 2 := by kernel_rfl
      have e2 : Tryz.prog.cellsOf 44 = 4 := by kernel_rfl
      have h0 : DataW.trod enc Tryz.prog W 0 sp true m 40 (([c0, c1, c2, c3, c4, c5].drop 0).take (Tryz.prog.cellsOf 40)) = some y0 := hf 0 _ rfl
      have h1 : DataW.trod enc Tryz.prog W 0 sp true m 44 (([c0, c1, c2, c3, c4, c5].drop 2).take (Tryz.prog.cellsOf 44)) = some y1 := hf 1 _ rfl
      rw [e1] at h0
      rw [e2] at h1
      obtain ⟨t, g, r0, r1⟩ := open_gty h0
      obtain ⟨i, B, c, r2, r3, r4, r5, ho, hn⟩ := open_el h1
      exact ⟨(⟨t, g, i⟩, B, c), by unfold sL sC glC; rw [r0, r1, r2, r3, r4, r5], ho, hn⟩
theorem open_gl {b0 : Nat} {r : Reach} {v : Value} {d : DataW H} {p : List MemPlace} (hv : Value.okWide Tryz.prog W r b0 46 v) (h : DataW.Trod enc Tryz.prog W 0 sp true 46 v d p) :
    ∃ x : SlotG, v = sV x ∧ x.1.i.Ok ∧ (x.1.i.l.length : Int) ≤ 9223372036854775807 := by
  obtain ⟨cs, rfl, hsz⟩ := okWide_struct Tryz.underlying46 hv
  rw [cellsGl] at hsz
  obtain ⟨fuel, hf⟩ := h
  obtain ⟨i, hi, h1, h2⟩ := open_six (cs := cs.toList) (by simpa [Value.cells] using hf) (by simpa using hsz)
  exact ⟨i, by show Value.agg cs = .agg (sC i); congr 1; apply Array.toList_inj.1; exact hi, h1, h2⟩
theorem open_glist {A : Option Addr} {len cap : Nat} {d : DataW H} {p : List MemPlace} (h : DataW.Trod enc Tryz.prog W 0 sp true 29 (.slice A len cap) d p) :
    ∃ l : List SlotG, l.length = len ∧ Gs W A l ∧ (l.length : Int) ≤ 9223372036854775807 ∧ ∀ x ∈ l, OkS x := by
  obtain ⟨fuel, hf⟩ := h
  rcases open_slice Tryz.underlying29 hf with ⟨hcs, _⟩ | ⟨a, ln, cp, m, n, D, Pl, hcs, hb, hl, hm, hmm, hx, hi⟩
  · simp [Value.cells] at hcs
    obtain ⟨rfl, rfl, rfl⟩ := hcs
    exact ⟨[], rfl, (fun j i hi => by cases hi), by simp, fun x hx => by cases hx⟩
  · simp [Value.cells] at hcs
    obtain ⟨rfl, rfl, rfl⟩ := hcs
    have hlm : len ≤ m := by rw [hmm]; split <;> omega
    have each : ∀ j, j < len → ∃ i : SlotG, (∀ u, u < 6 → W.cell? ((a.add (j * 6)).add u) = (sL i)[u]?) ∧ OkS i := by
      intro j hj
      obtain ⟨cs', hc, ht'⟩ := hi j (by omega)
      rw [cellsGl] at hc
      obtain ⟨_, hcl, hat⟩ := World.cells?_some hc
      obtain ⟨i, rfl, hw⟩ := open_six ht' hcl
      exact ⟨i, fun u hu => hat u (by omega), hw⟩
    have pick : ∀ k, k ≤ len → ∃ l : List SlotG, l.length = k ∧ (∀ (j : Nat) (i : SlotG), l[j]? = some i → ∀ u, u < 6 → W.cell? ((a.add (j * 6)).add u) = (sL i)[u]?) ∧ ∀ x ∈ l, OkS x := by
      intro k
      induction k with
      | zero => intro _; exact ⟨[], rfl, (fun j i hi => by cases hi), fun x hx => by cases hx⟩
      | succ k ih =>
        intro hk
        obtain ⟨l, hl1, hl2, hl3⟩ := ih (by omega)
        obtain ⟨i, hq, hw⟩ := each k (by omega)
        refine ⟨l ++ [i], by simp [hl1], fun j i' hi' => ?_, fun x hx => (List.mem_append.1 hx).elim (hl3 x) (fun h => by rw [List.mem_singleton] at h; subst h; exact hw)⟩
        rcases Nat.lt_or_ge j k with g | g
        · rw [List.getElem?_append_left (by omega)] at hi'
          exact hl2 j i' hi'
        · have hj : j < (l ++ [i]).length := (List.getElem?_eq_some_iff.1 hi').1
          rw [List.length_append, List.length_singleton] at hj
          obtain rfl : j = k := by omega
          rw [List.getElem?_append_right (by omega), hl1, Nat.sub_self] at hi'
          injection hi' with hi'
          subst hi'
          exact hq
    obtain ⟨l, hl1, hl2, hl3⟩ := pick len (Nat.le_refl _)
    unfold maxLen at hm
    refine ⟨l, hl1, fun j i hij => ?_, by omega, hl3⟩
    have q := hl2 j i hij
    have hj0 := (List.getElem?_eq_some_iff.1 hij).1
    have q00 : W.cell? ((a.add (0 * 6)).add 0) = some (.int .u8 (l[0]'(by omega)).1.t.toNat) := hl2 0 _ (List.getElem?_eq_getElem (by omega : 0 < l.length)) 0 (by omega)
    obtain ⟨b, off, spot⟩ := a
    have hsp : spot = none := by simpa [Addr.add] using World.cell?_spot q00
    subst hsp
    have q2 : ∀ u, u < 6 → W.cell? ⟨b, off + j * 6 + u, none⟩ = (sL i)[u]? := fun u hu => by
      have := q u hu
      rw [Go.WideShapes.add_plain, Go.WideShapes.add_plain] at this
      exact this
    have q0 : W.cell? ⟨b, off + j * 6 + 0, none⟩ = some (.int .u8 i.1.t.toNat) := q2 0 (by omega)
    exact ⟨b, off, rfl, block_lt_of_cell q0, q2⟩
end
end Go.Proofs.YtebgmfjgapmpfaaGreatDoor

/- A small number's bytes. -/
namespace Go.Proofs.YtebgmfjgapmpfaaGreatDoor
set_option linter.unusedVariables false

theorem lebL_sm (x : Int) (h0 : 0 ≤ x) (h1 : x < 128) : lebL x = [UInt8.ofNat x.toNat] := by
  have hn : lebN x = 1 := (lebN_least x (by omega)).unique ⟨Nat.le_refl _, by unfold fitU; simpa using h1, fun m a b => by omega⟩
  unfold lebL
  rw [hn]
  simp [grp]
  congr 2
  omega
end Go.Proofs.YtebgmfjgapmpfaaGreatDoor

/- Element segments as plain data; elems.Right; creelref13.Count, Right. -/
namespace Go.Proofs.YtebgmfjgapmpfaaGreatDoor
open Go.RowKit
set_option linter.unusedVariables false
set_option maxRecDepth 100000

/-- An element segment: its offset, its functions. -/
structure El where
  i : I
  fs : List Int
/-- Its cells, its labels at A, its functions at F. -/
abbrev elC (x : El) (A : Option Addr) (c : Nat) (F : Option Addr) (f : Nat) : Array Value := #[.int .u8 x.i.op.toNat, .int .u64 x.i.a, .int .u64 x.i.b, .slice A x.i.l.length c, .slice F x.fs.length f]
abbrev elV (x : El) (A : Option Addr) (c : Nat) (F : Option Addr) (f : Nat) : Value := .agg (elC x A c F f)
/-- The zero value's cells. -/
abbrev elZ : Array Value := #[.int .u8 0, .int .u64 0, .int .u64 0, .slice none 0 0, .slice none 0 0]
abbrev FiveE (W : World) (b : Nat) (x : El) (A : Option Addr) (c : Nat) (F : Option Addr) (f : Nat) : Prop :=
  W.cell? ⟨b, 0, none⟩ = some (.int .u8 x.i.op.toNat) ∧ W.cell? ⟨b, 1, none⟩ = some (.int .u64 x.i.a) ∧ W.cell? ⟨b, 2, none⟩ = some (.int .u64 x.i.b) ∧ W.cell? ⟨b, 3, none⟩ = some (.slice A x.i.l.length c) ∧ W.cell? ⟨b, 4, none⟩ = some (.slice F x.fs.length f)
theorem Whole.el {w : World} {b : Nat} {t : TypeId} {x : El} {A : Option Addr} {c : Nat} {F : Option Addr} {f : Nat} (h : Whole w b t (elC x A c F f)) : FiveE w b x A c F f := ⟨h.cell 0, h.cell 1, h.cell 2, h.cell 3, h.cell 4⟩
theorem put5 {w : World} {b : Nat} {t : TypeId} {x0 x1 x2 x3 x4 u0 u1 u2 u3 u4 : Value} (hb : Whole w b t #[x0, x1, x2, x3, x4]) :
    Whole (((((w.setCell ⟨b, 0, none⟩ u0).setCell ⟨b, 1, none⟩ u1).setCell ⟨b, 2, none⟩ u2).setCell ⟨b, 3, none⟩ u3).setCell ⟨b, 4, none⟩ u4) b t #[u0, u1, u2, u3, u4] ∧
    w.grownBy (((((w.setCell ⟨b, 0, none⟩ u0).setCell ⟨b, 1, none⟩ u1).setCell ⟨b, 2, none⟩ u2).setCell ⟨b, 3, none⟩ u3).setCell ⟨b, 4, none⟩ u4) (some b) :=
  ⟨(((((hb.put 0 u0).put 1 u1).put 2 u2).put 3 u3).put 4 u4),
   gb_put (p := ⟨b, 4, none⟩) (gb_put (p := ⟨b, 3, none⟩) (gb_put (p := ⟨b, 2, none⟩) (gb_put (p := ⟨b, 1, none⟩) (gb_put (p := ⟨b, 0, none⟩) (gb_refl w _) (.inl rfl) u0) (.inl rfl) u1) (.inl rfl) u2) (.inl rfl) u3) (.inl rfl) u4⟩
/-- A block that holds a segment, in a world grown from B: what is held of it. -/
abbrev BxEl (B : World) (b : Nat) (x : El) (A : Option Addr) (c : Nat) (F : Option Addr) (f : Nat) (W : World) : Prop := (Whole W b 62 (elC x A c F f) ∧ Below B.heap.size B W) ∧ FiveE W b x A c F f
section
variable {B W W' : World} {b : Nat} {x : El} {A : Option Addr} {c : Nat} {F : Option Addr} {f : Nat}
theorem bxEl_on (h : BxEl B b x A c F f W) (hb : Below W.heap.size W W') : BxEl B b x A c F f W' := ⟨⟨h.1.1.below hb, h.1.2.trans (hb.mono h.1.2.size)⟩, (h.1.1.below hb).el⟩
theorem bxEl_start (w : World) (x : El) (A : Option Addr) (c : Nat) (F : Option Addr) (f : Nat) : BxEl w w.heap.size x A c F f (w.alloc (.cells (elC x A c F f) 62)) := ⟨⟨Whole.made _ _ _, below_box _ _⟩, (Whole.made w 62 (elC x A c F f)).el⟩
theorem bxEl_bel (h : BxEl B b x A c F f W) : Below B.heap.size B W := h.1.2
end
set_option maxHeartbeats 2000000 in
theorem elright_any (x : El) (A : Option Addr) (c : Nat) (F : Option Addr) (f : Nat) (w : World) (oi : x.i.Ok) (hT : Tabs w) (hl : (x.i.l.length : Int) ≤ 9223372036854775807) (hf : x.fs.length ≤ 10000) :
    Calls Tryz.prog 100 #[elV x A c F f] w fun e w' => e = .returned (.int .i64 (crightZ x.i)) ∧ Below w.heap.size w w' := by
  have H0 := Lib.hid (bxEl_start w x A c F f)
  have HC := Lib.hid (cright_any x.i A c (w.alloc (.cells (elC x A c F f) 62)) oi (hT.below (below_box w _)) hl)
  have d1 : decide ((10000 : Int) < (x.fs.length : Int)) = false := decide_eq_false (by omega)
  clear hT oi hl hf
  go_enter Tryz.func100, Tryz.ntmps100
  go_wp2_with (go_at_call 124; go_must ((with_reducible refine HC.out.mono ?_); rintro e w1 ⟨rfl, hb⟩; have H1 := Lib.hid (bxEl_on H0.out hb); clear hb))
  go_ret
  exact ⟨rfl, bxEl_bel H1.out⟩
set_option maxHeartbeats 2000000 in
theorem relright_any (x : El) (A : Option Addr) (c : Nat) (F : Option Addr) (f : Nat) (w : World) (oi : x.i.Ok) (hl : (x.i.l.length : Int) ≤ 9223372036854775807) :
    Calls Tryz.prog 27 #[elV x A c F f] w fun e w' => e = .returned (.int .i64 (crightZ x.i)) ∧ Below w.heap.size w w' := by
  have H0 := Lib.hid (bxEl_start w x A c F f)
  have HC := Lib.hid (rcright_any x.i A c (w.alloc (.cells (elC x A c F f) 62)) oi hl)
  clear oi hl
  go_enter Tryz.func27, Tryz.ntmps27
  go_wp2_with (go_at_call 55; go_must ((with_reducible refine HC.out.mono ?_); rintro e w1 ⟨rfl, hb⟩; have H1 := Lib.hid (bxEl_on H0.out hb); clear hb))
  go_ret
  exact ⟨rfl, bxEl_bel H1.out⟩
/-- A string that a function makes: nothing old turned. -/
theorem relcount_any (n : Nat) (w : World) (hn : n ≤ 1000000) : Calls Tryz.prog 26 #[.int .i64 n] w fun e w' => e = .returned (.string (S (lebL n))) ∧ Below w.heap.size w w' := by
  have HC := Lib.hid (fun w => count_any (n : Int) w (by omega) (by omega))
  generalize lebL (n : Int) = y at *
  go_enter Tryz.func26, Tryz.ntmps26
  go_wp2_with (go_at_call 53; go_must ((with_reducible refine (HC.out _).mono ?_); rintro e w1 ⟨rfl, hb⟩; have HB := Lib.hid hb; clear hb))
  go_ret
  exact ⟨rfl, HB.out⟩
end Go.Proofs.YtebgmfjgapmpfaaGreatDoor

/- segment.GetHead, elems.Get of any bytes. -/
namespace Go.Proofs.YtebgmfjgapmpfaaGreatDoor
open Go.RowKit
set_option linter.unusedVariables false
set_option maxRecDepth 100000

/-- A segment's beginning; an element segment. -/
noncomputable def headR (l : List UInt8) (k : Nat) : Res I := (noughtR l k).bind fun _ k1 => readR l k1
noncomputable def elR (l : List UInt8) (k : Nat) : Res El := (headR l k).bind fun i k1 => (labelsR l k1).bind fun fs k2 => .ok ⟨i, fs⟩ k2
set_option maxHeartbeats 4000000 in
theorem gethead_any {w : World} {p : Nat} {l : List UInt8} {k : Nat} (h : Sc w p l k) (hT : TbP p w) :
    Calls Tryz.prog 104 #[.pointer (some ⟨p, 0, none⟩)] w (GetsR p l (headR l k) w) := by
  have hp := h.lt
  have hN := getNought_any (h.alloc (.cells #[.int .u8 0, .int .u64 0, .int .u64 0, .slice none 0 0] 44))
  have HT0 := Lib.hid (hT.below (below_box w (.cells #[.int .u8 0, .int .u64 0, .int .u64 0, .slice none 0 0] 44)) (Nat.le_of_lt hp))
  have HWM := Lib.hid (Whole.made w 44 #[.int .u8 0, .int .u64 0, .int .u64 0, .slice none 0 0])
  unfold headR
  cases h1 : noughtR l k with
  | err ec ea =>
    rw [h1] at hN
    rw [Res.bind_err]
    show Calls _ _ _ _ (fun e w' => e = .panicked (stopP ec ea) ∧ w.grownBy w' (some p))
    have HN := Lib.hid hN
    clear hN h1 h hT
    go_enter Tryz.func104, Tryz.ntmps104
    go_wp2_with (go_at_call 137; go_must ((with_reducible refine HN.out.mono ?_); rintro e w1 ⟨rfl, hg⟩; have HG1 := Lib.hid hg; clear hg))
    exact ⟨rfl, rfl, gb_trans (gb_alloc (gb_refl w _) _) HG1.out⟩
  | ok u k1 =>
    rw [h1] at hN
    rw [Res.bind_ok]
    have HN := Lib.hid hN
    clear hN h1 h hT
    have hC := fun W (hs : Sc W p l k1) (ht : TbP p W) => cread_any hs ht
    cases h2 : readR l k1 with
    | err ec ea =>
      rw [h2] at hC
      show Calls _ _ _ _ (fun e w' => e = .panicked (stopP ec ea) ∧ w.grownBy w' (some p))
      have HC := Lib.hid (fun W (hs : Sc W p l k1) (ht : TbP p W) => show Calls Tryz.prog 93 #[.pointer (some ⟨p, 0, none⟩)] W (fun e w' => e = .panicked (stopP ec ea) ∧ W.grownBy w' (some p)) from hC W hs ht)
      clear hC h2
      go_enter Tryz.func104, Tryz.ntmps104
      go_wp2_with (first
        | (go_at_call 137; go_must ((with_reducible refine HN.out.mono ?_); rintro e w1 ⟨rfl, hs, hg⟩; have HS1 := Lib.hid hs; have HG1 := Lib.hid hg; clear hs hg))
        | (go_at_call 93; go_must ((with_reducible refine (HC.out _ HS1.out (HT0.out.self HG1.out)).mono ?_); rintro e w2 ⟨rfl, hg⟩; have HG2 := Lib.hid hg; clear hg)))
      exact ⟨rfl, rfl, gb_trans (gb_trans (gb_alloc (gb_refl w _) _) HG1.out) HG2.out⟩
    | ok i k2 =>
      rw [h2] at hC
      have HC := Lib.hid (fun W (hs : Sc W p l k1) (ht : TbP p W) => show Calls Tryz.prog 93 #[.pointer (some ⟨p, 0, none⟩)] W (Gets p l i k2 W) from hC W hs ht)
      clear hC h2
      go_enter Tryz.func104, Tryz.ntmps104
      go_wp2_with (first
        | (go_at_call 137; go_must ((with_reducible refine HN.out.mono ?_); rintro e w1 ⟨rfl, hs, hg⟩; have HS1 := Lib.hid hs; have HG1 := Lib.hid hg; have HW1 := Lib.hid (HWM.out.grown hg (by simp only [ne_eq, Option.some.injEq]; omega)); clear hs hg))
        | (go_at_call 93; go_must ((with_reducible refine (HC.out _ HS1.out (HT0.out.self HG1.out)).mono ?_); intro e w2 hq; obtain ⟨A, c, rfl, hla, hfar, hs, hg, hty⟩ := hq; have HS2 := Lib.hid hs; have HG2 := Lib.hid hg; have HTY := Lib.hid hty; have HF := Lib.hid hfar; have HW2 := Lib.hid (HW1.out.grown hg (by simp only [ne_eq, Option.some.injEq]; omega)); have z0 := HW2.out.cell 0; have z1 := HW2.out.cell 1; have z2 := HW2.out.cell 2; have z3 := HW2.out.cell 3; simp only [List.getElem?_toArray, List.getElem?_cons_zero, List.getElem?_cons_succ] at z0 z1 z2 z3; have f0 := HW2.out.frozen 0; have f1 := HW2.out.frozen 1; have f2 := HW2.out.frozen 2; have f3 := HW2.out.frozen 3; clear hla hfar hs hg hty)))
      obtain ⟨h1, h2⟩ := put4 (u0 := .int .u8 i.op.toNat) (u1 := .int .u64 i.a) (u2 := .int .u64 i.b) (u3 := .slice A i.l.length c) HW2.out
      have q0 := h1.cell 0
      have q1 := h1.cell 1
      have q2 := h1.cell 2
      have q3 := h1.cell 3
      simp only [List.getElem?_toArray, List.getElem?_cons_zero, List.getElem?_cons_succ] at q0 q1 q2 q3
      have hz1 := HG1.out.size
      rw [size_box] at hz1
      have hty := HTY.out.keep h2 (HTY.out.apart HW2.out (by decide))
      refine bodyPost_ret (v := insV i A c) (by simp [results, Tryz.results104, go_sem, q0, q1, q2, q3]) rfl ?_
      exact ⟨A, c, rfl, hty.lies, fun a ha => by have := HF.out a ha; omega, HS2.out.grown h2 (by simp only [ne_eq, Option.some.injEq]; omega) (fun g e => by injection e with e; omega), gb_before (gb_trans (gb_trans (gb_alloc (gb_refl w _) _) HG1.out) HG2.out) h2 (fun g e => .inr (by injection e with e; omega)), hty⟩
/-- What Get leaves behind. -/
def GotEl (p : Nat) (l : List UInt8) (r : Res El) (w : World) (e : Ending) (w' : World) : Prop := match r with
  | .ok x k => ∃ A c F f, e = .returned (elV x A c F f) ∧ Sc w' p l k ∧ w.grownBy w' (some p) ∧ LabT w' F x.fs ∧ ∀ a, F = some a → w.heap.size ≤ a.block
  | .err c a => e = .panicked (stopP c a) ∧ w.grownBy w' (some p)
/-- Get once the offset is read: the result's block, the offset's box; what the reader at q turns. -/
structure GBE (w : World) (q bt : Nat) (i : I) (A : Option Addr) (c : Nat) (W : World) : Prop where
  res : Whole W w.heap.size 62 elZ
  bx : Whole W bt 44 (insC i A c)
  gr : w.grownBy W (some q)
  hp : q < w.heap.size
  lt : w.heap.size < bt
section
variable {w W W' : World} {q bt : Nat} {i : I} {A : Option Addr} {c : Nat}
theorem GBE.call (h : GBE w q bt i A c W) (hg : W.grownBy W' (some q)) : GBE w q bt i A c W' := by
  have a := h.hp
  have b := h.lt
  exact ⟨h.res.grown hg (by simp only [ne_eq, Option.some.injEq]; omega), h.bx.grown hg (by simp only [ne_eq, Option.some.injEq]; omega), gb_trans h.gr hg, a, b⟩
theorem GBE.start {w w1 : World} (hp : q < w.heap.size) (hg : (w.alloc (.cells elZ 62)).grownBy w1 (some q)) : GBE w q w1.heap.size i A c (w1.alloc (.cells (insC i A c) 44)) := by
  have hz := hg.size
  rw [size_box] at hz
  exact ⟨((Whole.made w _ _).grown hg (by simp only [ne_eq, Option.some.injEq]; omega)).alloc _, Whole.made _ _ _, gb_alloc (gb_trans (gb_alloc (gb_refl w _) _) hg) _, hp, by omega⟩
theorem GBE.fin {x0 x1 x2 x3 x4 : Value} (h : GBE w q bt i A c W) :
    Whole (((((W.setCell ⟨w.heap.size, 0, none⟩ x0).setCell ⟨w.heap.size, 1, none⟩ x1).setCell ⟨w.heap.size, 2, none⟩ x2).setCell ⟨w.heap.size, 3, none⟩ x3).setCell ⟨w.heap.size, 4, none⟩ x4) w.heap.size 62 #[x0, x1, x2, x3, x4] ∧
    W.grownBy (((((W.setCell ⟨w.heap.size, 0, none⟩ x0).setCell ⟨w.heap.size, 1, none⟩ x1).setCell ⟨w.heap.size, 2, none⟩ x2).setCell ⟨w.heap.size, 3, none⟩ x3).setCell ⟨w.heap.size, 4, none⟩ x4) (some w.heap.size) ∧
    w.grownBy (((((W.setCell ⟨w.heap.size, 0, none⟩ x0).setCell ⟨w.heap.size, 1, none⟩ x1).setCell ⟨w.heap.size, 2, none⟩ x2).setCell ⟨w.heap.size, 3, none⟩ x3).setCell ⟨w.heap.size, 4, none⟩ x4) (some q) := by
  obtain ⟨h1, h2⟩ := put5 (u0 := x0) (u1 := x1) (u2 := x2) (u3 := x3) (u4 := x4) h.res
  have := h.hp
  exact ⟨h1, h2, gb_before h.gr h2 (fun g e => .inr (by injection e with e; omega))⟩
end
set_option maxHeartbeats 4000000 in
theorem get_el {w : World} {p : Nat} {l : List UInt8} {k : Nat} (h : Sc w p l k) (hT : TbP p w) :
    Calls Tryz.prog 62 #[.pointer (some ⟨p, 0, none⟩)] w (GotEl p l (elR l k) w) := by
  have hp := h.lt
  have hG := gethead_any (h.alloc (.cells elZ 62)) (hT.below (below_box w (.cells elZ 62)) (Nat.le_of_lt hp))
  unfold elR
  cases h1 : headR l k with
  | err ec ea =>
    rw [h1] at hG
    rw [Res.bind_err]
    show Calls _ _ _ _ (fun e w' => e = .panicked (stopP ec ea) ∧ w.grownBy w' (some p))
    have HG := Lib.hid hG
    clear hG h1 h hT
    go_enter Tryz.func62, Tryz.ntmps62
    go_wp2_with (go_at_call 104; go_must ((with_reducible refine HG.out.mono ?_); rintro e w1 ⟨rfl, hg⟩; have HG1 := Lib.hid hg; clear hg))
    exact ⟨rfl, rfl, gb_trans (gb_alloc (gb_refl w _) _) HG1.out⟩
  | ok i k1 =>
    rw [h1] at hG
    rw [Res.bind_ok]
    have HG := Lib.hid (show Calls Tryz.prog 104 #[.pointer (some ⟨p, 0, none⟩)] (w.alloc (.cells elZ 62)) (Gets p l i k1 (w.alloc (.cells elZ 62))) from hG)
    clear hG h1 h hT
    have hC := fun W (hs : Sc W p l k1) => getLabels_any hs
    cases h2 : labelsR l k1 with
    | err ec ea =>
      rw [h2] at hC
      rw [Res.bind_err]
      show Calls _ _ _ _ (fun e w' => e = .panicked (stopP ec ea) ∧ w.grownBy w' (some p))
      have HC := Lib.hid (fun W (hs : Sc W p l k1) => show Calls Tryz.prog 105 #[.pointer (some ⟨p, 0, none⟩)] W (fun e w' => e = .panicked (stopP ec ea) ∧ W.grownBy w' (some p)) from hC W hs)
      clear hC h2
      go_enter Tryz.func62, Tryz.ntmps62
      go_wp2_with (go_at_call 104; go_must ((with_reducible refine HG.out.mono ?_); intro e w1 hq; obtain ⟨A, c, rfl, _, _, hs, hg, _⟩ := hq; have HGB := Lib.hid (GBE.start (i := i) (A := A) (c := c) hp hg); have HS1 := Lib.hid (hs.alloc (.cells (insC i A c) 44)); clear hs hg))
      generalize w1.alloc (.cells (insC i A c) 44) = W at *
      generalize w1.heap.size = bt at *
      have x0 := HGB.out.bx.cell 0
      have x1 := HGB.out.bx.cell 1
      have x2 := HGB.out.bx.cell 2
      have x3 := HGB.out.bx.cell 3
      simp only [List.getElem?_toArray, List.getElem?_cons_zero, List.getElem?_cons_succ] at x0 x1 x2 x3
      have hsd : Sc W.drew p l k1 := HS1.out
      have HC2 := Lib.hid (HC.out _ hsd)
      refine wp_region_held_drew (S := fun W' => W'.cell? ⟨bt, 0, none⟩ = some (.int .u8 i.op.toNat) ∧ W'.cell? ⟨bt, 1, none⟩ = some (.int .u64 i.a) ∧ W'.cell? ⟨bt, 2, none⟩ = some (.int .u64 i.b) ∧ W'.cell? ⟨bt, 3, none⟩ = some (.slice A i.l.length c)) (by kernel_rfl) ⟨x0, x1, x2, x3⟩ (fun hHeld => ?_)
      (refine wpAnyH_take (i := 0) (oi := { dst := some 6, op := Op.load 44 (Operand.tmp 3), type := 44, pos := "elems.go:32", after := #[], guard := none }) (v := ?_) rfl (by kernel_rfl) (by kernel_rfl) (by kernel_rfl) (fun _ _ _ h => h) ?_ (by assumption) ?_; rotate_left; focus (refine .inl ⟨by kernel_rfl, ?_⟩; intro w hSw; (try dsimp only at hSw); go_simp; (try with_reducible rfl)); (try simp only [Act.put, List.setIfInBounds_toArray, List.set_cons_zero, List.set_cons_succ]))
      (refine wpAnyH_take (i := 1) (oi := { dst := some 7, op := Op.move (Operand.tmp 0), type := 24, pos := "elems.go:32", after := #[], guard := none }) (v := ?_) rfl (by kernel_rfl) (by kernel_rfl) (by kernel_rfl) (fun _ _ _ h => h) ?_ (by assumption) ?_; rotate_left; focus (refine .inl ⟨by kernel_rfl, ?_⟩; intro w hSw; (try dsimp only at hSw); go_simp; (try with_reducible rfl)); (try simp only [Act.put, List.setIfInBounds_toArray, List.set_cons_zero, List.set_cons_succ]))
      refine wpAnyH_ready (rs := [2]) (by kernel_rfl) (by simp) ?_
      refine AllReadyH.cons (o := { dst := some 8, op := Op.call { callee := Callee.value (Operand.func 105), args := #[Operand.tmp 7], argTypes := #[24] }, type := 42, pos := "elems.go:32", after := #[{ on := 1, ground := Ground.data }], guard := none }) rfl (fun K hK => ?_) AllReadyH.nil
      go_simp
      (go_at_call 105; (with_reducible refine HC2.out.mono ?_); rintro e w2 ⟨rfl, hg⟩; exact ⟨rfl, rfl, gb_trans (gb_drew HGB.out.gr) hg⟩)
    | ok fs k2 =>
      rw [h2] at hC
      rw [Res.bind_ok]
      have HC := Lib.hid (fun W (hs : Sc W p l k1) => show Calls Tryz.prog 105 #[.pointer (some ⟨p, 0, none⟩)] W (Labs p l fs k2 W) from hC W hs)
      clear hC h2
      go_enter Tryz.func62, Tryz.ntmps62
      go_wp2_with (go_at_call 104; go_must ((with_reducible refine HG.out.mono ?_); intro e w1 hq; obtain ⟨A, c, rfl, _, _, hs, hg, _⟩ := hq; have HGB := Lib.hid (GBE.start (i := i) (A := A) (c := c) hp hg); have HS1 := Lib.hid (hs.alloc (.cells (insC i A c) 44)); clear hs hg))
      generalize w1.alloc (.cells (insC i A c) 44) = W at *
      generalize w1.heap.size = bt at *
      have hsd : Sc W.drew p l k1 := HS1.out
      have HC2 := Lib.hid (HC.out _ hsd)
      have HGD := Lib.hid (HGB.out.call (gb_drew (gb_refl W _)))
      have hzw : w.heap.size ≤ W.drew.heap.size := HGD.out.gr.size
      have x0 := HGB.out.bx.cell 0
      have x1 := HGB.out.bx.cell 1
      have x2 := HGB.out.bx.cell 2
      have x3 := HGB.out.bx.cell 3
      simp only [List.getElem?_toArray, List.getElem?_cons_zero, List.getElem?_cons_succ] at x0 x1 x2 x3
      clear HC HS1 HGB HG hsd
      go_region_with (go_at_call 105; (with_reducible refine HC2.out.mono ?_); intro e w2 hq; obtain ⟨F, f, rfl, hfar, hs, hg, hty⟩ := hq; have HS2 := Lib.hid hs; have HF := Lib.hid hfar; have HTY := Lib.hid hty; have HG2 := Lib.hid (HGD.out.call hg); have y0 := HG2.out.bx.cell 0; have y1 := HG2.out.bx.cell 1; have y2 := HG2.out.bx.cell 2; have y3 := HG2.out.bx.cell 3; simp only [List.getElem?_toArray, List.getElem?_cons_zero, List.getElem?_cons_succ] at y0 y1 y2 y3; have f0 := HG2.out.res.frozen 0; have f1 := HG2.out.res.frozen 1; have f2 := HG2.out.res.frozen 2; have f3 := HG2.out.res.frozen 3; have f4 := HG2.out.res.frozen 4; have z0 := HG2.out.res.cell 0; have z1 := HG2.out.res.cell 1; have z2 := HG2.out.res.cell 2; have z3 := HG2.out.res.cell 3; have z4 := HG2.out.res.cell 4; simp only [List.getElem?_toArray, List.getElem?_cons_zero, List.getElem?_cons_succ] at z0 z1 z2 z3 z4; clear hs hg hty hfar)
      all_goals
        go_wp2
        obtain ⟨h1, h2, h3⟩ := GBE.fin (x0 := .int .u8 i.op.toNat) (x1 := .int .u64 i.a) (x2 := .int .u64 i.b) (x3 := .slice A i.l.length c) (x4 := .slice F fs.length f) HG2.out
        obtain ⟨q0, q1, q2, q3, q4⟩ := Whole.el (x := ⟨i, fs⟩) h1
        have hs3 := HS2.out.grown h2 (by have := HG2.out.hp; simp only [ne_eq, Option.some.injEq]; omega) (fun g e => by have := HG2.out.hp; injection e with e; omega)
        exact bodyPost_ret (v := elV ⟨i, fs⟩ A c F f) (by simp [results, Tryz.results62, go_sem, q0, q1, q2, q3, q4]) rfl ⟨A, c, F, f, rfl, hs3, h3, HTY.out.keep h2 (HTY.out.apart HG2.out.res (by decide)), fun a ha => Nat.le_trans hzw (HF.out a ha)⟩
end Go.Proofs.YtebgmfjgapmpfaaGreatDoor

/- The reference's Count and creelref13.Get, whatever the reader's state. (By gen/genElRef.py.) -/
namespace Go.Proofs.YtebgmfjgapmpfaaGreatDoor
open Go.RowKit
set_option linter.unusedVariables false
set_option maxRecDepth 100000

theorem count_st {w : World} {q : Nat} {l : List UInt8} {s : RSt} (h : Rs w q l s) :
    Calls Tryz.prog 49 #[.pointer (some ⟨q, 0, none⟩)] w fun e w' => e = .returned (.int .i64 (vZ (s.bind (countR l)))) ∧ Rs w' q l (stOf (s.bind (countR l))) ∧ w.grownBy w' (some q) := by
  cases s with
  | «at» k => exact count_ref h
  | bad c a =>
    show Calls _ _ _ _ fun e w' => e = .returned (.int .i64 0) ∧ Rs w' q l (.bad c a) ∧ w.grownBy w' (some q)
    have HN := Lib.hid (show Calls Tryz.prog 94 #[.pointer (some ⟨q, 0, none⟩)] w fun e w' => e = .returned (.int .u32 0) ∧ Rs w' q l (.bad c a) ∧ w.grownBy w' (some q) from index_ref h)
    obtain ⟨jy, y1⟩ := at_bad h
    have hne : (c != 0) = true := by simpa using h.nz
    clear h
    go_enter Tryz.func49, Tryz.ntmps49
    go_wp2_with (go_at_call 94; go_must ((with_reducible refine HN.out.mono ?_); rintro e w1 ⟨rfl, hs, hg⟩; have HS := Lib.hid hs; have HG := Lib.hid hg; have x2 := why_bad hs; clear hs hg y1))
    go_ret
    exact ⟨rfl, HS.out, HG.out⟩
/-- The state behind a byte that can only be 0, which the reference reads by hand. -/
theorem pre_ref {w : World} {q : Nat} {l : List UInt8} {s : RSt} (h : Rs w q l s) :
    (∃ j : Int, w.cell? ⟨q, 1, none⟩ = some (.int .i64 j)) ∧
    ((Calls Tryz.prog 106 #[.pointer (some ⟨q, 0, none⟩)] w fun e w' => e = .returned (.int .i64 0) ∧ Rs w' q l (stOf (s.bind (noughtR l))) ∧ w.grownBy w' (some q)) ∨
     (∃ (k k' : Nat) (c : UInt8), s = .at k ∧ ((c.toNat : Int) != 0) = true ∧ stOf (s.bind (noughtR l)) = .bad 10 k ∧ w.cell? ⟨q, 1, none⟩ = some (.int .i64 k) ∧
       Calls Tryz.prog 106 #[.pointer (some ⟨q, 0, none⟩)] w fun e w' => e = .returned (.int .i64 c.toNat) ∧ Rs w' q l (.at k') ∧ w.grownBy w' (some q))) := by
  have hB := byte_ref h
  cases s with
  | bad c a => exact ⟨at_bad h, .inl hB⟩
  | «at» k =>
    refine ⟨⟨_, at_at h⟩, ?_⟩
    have hB2 : Calls Tryz.prog 106 #[.pointer (some ⟨q, 0, none⟩)] w fun e w' => e = .returned (.int .i64 (v8 (byteR l k))) ∧ Rs w' q l (stOf (byteR l k)) ∧ w.grownBy w' (some q) := hB
    have hn : (RSt.at k).bind (noughtR l) = noughtR l k := rfl
    rw [hn]
    unfold noughtR
    cases hr : byteR l k with
    | err c a =>
      rw [hr] at hB2
      exact .inl hB2
    | ok c k' =>
      rw [hr] at hB2
      rw [Res.bind_ok]
      by_cases hc : c = 0
      · subst hc
        rw [if_pos rfl]
        exact .inl hB2
      · rw [if_neg hc]
        refine .inr ⟨k, k', c, rfl, ?_, rfl, at_at h, hB2⟩
        have : c.toNat ≠ 0 := fun e => hc (UInt8.toNat_inj.1 (by rw [e]; rfl))
        simp; omega
/-- How far the reference's Get has come: its result's block, the segment's box, the reader; the functions that are read. -/
structure RLe (w : World) (q : Nat) (l : List UInt8) (bt : Nat) (i : I) (A : Option Addr) (c : Nat) (s : RSt) (vb v : Value) (acc : List Int) (W : World) : Prop where
  res : Whole W w.heap.size 62 elZ
  box : Whole W bt 62 #[.int .u8 i.op.toNat, .int .u64 i.a, .int .u64 i.b, .slice A i.l.length c, vb]
  rs : Rs W q l s
  gr : w.grownBy W (some q)
  hq : q < w.heap.size
  h2 : w.heap.size < bt
  row : W.ownsRow (bt + 1) 97 1 v acc.length (cells32 acc)
section
variable {w : World} {q : Nat} {l : List UInt8} {bt : Nat} {i : I} {A : Option Addr} {c : Nat} {s s' : RSt} {W W' : World} {vb v v' : Value} {acc : List Int}
theorem RLe.start {w w1 : World} (hq : q < w.heap.size) (hg : (w.alloc (.cells elZ 62)).grownBy w1 (some q)) (hs : Rs w1 q l s) : RLe w q l w1.heap.size i A c s (.slice none 0 0) (.slice none 0 0) [] (w1.alloc (.cells #[.int .u8 i.op.toNat, .int .u64 i.a, .int .u64 i.b, .slice A i.l.length c, .slice none 0 0] 62)) := by
  have hz := hg.size
  rw [size_box] at hz
  exact ⟨((Whole.made w _ _).grown hg (by simp only [ne_eq, Option.some.injEq]; omega)).alloc _, Whole.made _ _ _, hs.alloc _, gb_alloc (gb_trans (gb_alloc (gb_refl w _) _) hg) _, hq, by omega, World.ownsRow_nil _ _ _ _⟩
theorem RLe.call (h : RLe w q l bt i A c s vb v acc W) (hs : Rs W' q l s') (hg : W.grownBy W' (some q)) : RLe w q l bt i A c s' vb v acc W' := by
  have a := h.hq
  have b := h.h2
  obtain ⟨A0, cap0, k0, hwh, _⟩ := h.rs
  exact ⟨h.res.grown hg (by simp only [ne_eq, Option.some.injEq]; omega), h.box.grown hg (by simp only [ne_eq, Option.some.injEq]; omega), hs, gb_trans h.gr hg, h.hq, h.h2,
    World.ownsRow.kept h.row hg (.inr (fun e => own_whole h.row hwh (by decide) e.symm))⟩
theorem RLe.app {x : Int} {w' : World} (h : RLe w q l bt i A c s vb v acc W) (hr : w'.ownsRow (bt + 1) 97 1 v' (acc ++ [x]).length (cells32 (acc ++ [x]))) (hg : (W.alloc (.cells #[.int .u32 x] 97)).grownBy w' v.ownBlock) :
    RLe w q l bt i A c s vb v' (acc ++ [x]) w' := by
  have a := h.hq
  have b := h.h2
  have hlo : ∀ g, v.ownBlock = some g → bt + 1 ≤ g := fun g e => (World.ownsRow.lt h.row g e).1
  have hrs := h.rs
  obtain ⟨A0, cap0, k0, hwh, _⟩ := hrs
  exact ⟨(h.res.alloc _).grown hg (own_whole h.row h.res (by decide)), (h.box.alloc _).grown hg (own_whole h.row h.box (by decide)), (h.rs.alloc _).grown hg (own_whole h.row hwh (by decide)) (fun g e => by have := hlo g e; omega),
    gb_before (gb_alloc h.gr _) hg (fun g e => .inr (by have := hlo g e; omega)), h.hq, h.h2, hr⟩
theorem RLe.store (h : RLe w q l bt i A c s vb v acc W) : RLe w q l bt i A c s v v acc (W.setCell ⟨bt, 4, none⟩ v) := by
  have a := h.hq
  have b := h.h2
  have hg : W.grownBy (W.setCell ⟨bt, 4, none⟩ v) (some bt) := gb_put (p := ⟨bt, 4, none⟩) (gb_refl W _) (.inl rfl) v
  exact ⟨h.res.grown hg (by simp only [ne_eq, Option.some.injEq]; omega), h.box.put 4 v, h.rs.grown hg (by simp only [ne_eq, Option.some.injEq]; omega) (fun g e => by injection e with e; omega), gb_before h.gr hg (fun g e => .inr (by injection e with e; omega)), h.hq, h.h2,
    World.ownsRow.kept h.row hg (.inr (fun e => own_whole h.row h.box (by decide) e.symm))⟩
end
/-- What creelref13.Get leaves behind. -/
def RGotEl (q : Nat) (l : List UInt8) (r : Res El) (w : World) (e : Ending) (w' : World) : Prop :=
  ∃ (x : El) (A : Option Addr) (c : Nat) (F : Option Addr) (f : Nat), e = .returned (elV x A c F f) ∧ Rs w' q l (stOf r) ∧ (∀ y k, r = .ok y k → x = y) ∧ w.grownBy w' (some q) ∧ LabT w' F x.fs ∧ ∀ a, F = some a → w.heap.size ≤ a.block
theorem RLe.fin {w : World} {q : Nat} {l : List UInt8} {bt : Nat} {i : I} {A : Option Addr} {c : Nat} {s : RSt} {W : World} {F : Option Addr} {f : Nat} {acc : List Int} (h : RLe w q l bt i A c s (.slice F acc.length f) (.slice F acc.length f) acc W) {T : Res El} (hT : stOf T = s) (hv : ∀ y k, T = .ok y k → (⟨i, acc⟩ : El) = y) (W4 : World) (hW : W4 = ((((W.setCell ⟨w.heap.size, 0, none⟩ (.int .u8 i.op.toNat)).setCell ⟨w.heap.size, 1, none⟩ (.int .u64 i.a)).setCell ⟨w.heap.size, 2, none⟩ (.int .u64 i.b)).setCell ⟨w.heap.size, 3, none⟩ (.slice A i.l.length c)).setCell ⟨w.heap.size, 4, none⟩ (.slice F acc.length f)) :
    FiveE W4 w.heap.size ⟨i, acc⟩ A c F f ∧ RGotEl q l T w (.returned (elV ⟨i, acc⟩ A c F f)) W4 := by
  subst hW
  have a := h.hq
  have b := h.h2
  obtain ⟨h1, h2⟩ := put5 (u0 := .int .u8 i.op.toNat) (u1 := .int .u64 i.a) (u2 := .int .u64 i.b) (u3 := .slice A i.l.length c) (u4 := .slice F acc.length f) h.res
  obtain ⟨A0, c0, e0, hl, hf⟩ := Row32.labT h.row
  injection e0 with e1 e2 e3
  subst e1
  exact ⟨Whole.el (x := ⟨i, acc⟩) h1, ⟨i, acc⟩, A, c, F, f, rfl, by rw [hT]; exact h.rs.grown h2 (by simp only [ne_eq, Option.some.injEq]; omega) (fun g e => by injection e with e; omega), hv, gb_before h.gr h2 (fun g e => .inr (by injection e with e; omega)), hl.keep h2 (hl.apart h.res (by decide)), fun a ha => by have := hf a ha; omega⟩
theorem count_startS {l : List UInt8} {s : RSt} : ∃ (n : Nat) (s0 : RSt), n ≤ 10000 ∧ (vZ (s.bind (countR l)) = n ∧ stOf (s.bind (countR l)) = s0) ∧ Inv32 l n 0 s0 [] (s.bind (labelsR l)) := by
  cases s with
  | «at» k => exact count_start
  | bad c a => exact ⟨0, .bad c a, by omega, ⟨rfl, rfl⟩, rfl⟩
theorem el_fin {l : List UInt8} {X : Res I} {i : I} (hi : ∀ y k, X = .ok y k → i = y) : (X.bind fun i k1 => (labelsR l k1).bind fun fs k2 => .ok (⟨i, fs⟩ : El) k2) = ((stOf X).bind (labelsR l)).bind fun fs k2 => .ok (⟨i, fs⟩ : El) k2 := by
  cases X with
  | err c a => rfl
  | ok y k =>
    obtain rfl := hi y k rfl
    rfl
set_option maxHeartbeats 8000000 in
theorem rget_el {w : World} {q : Nat} {l : List UInt8} {s : RSt} (h : Rs w q l s) :
    Calls Tryz.prog 63 #[.pointer (some ⟨q, 0, none⟩)] w (RGotEl q l (s.bind (elR l)) w) := by
  have hq := h.lt
  obtain ⟨⟨j0, y1⟩, hpre⟩ := pre_ref (h.alloc (.cells elZ 62))
  obtain ⟨s1, hs1⟩ : ∃ s1, s1 = stOf (s.bind (noughtR l)) := ⟨_, rfl⟩
  have hX : s.bind (elR l) = (s1.bind (readR l)).bind fun i k1 => (labelsR l k1).bind fun fs k2 => .ok (⟨i, fs⟩ : El) k2 := by
    rw [hs1]
    cases s with
    | bad c a => rfl
    | «at» k =>
      show elR l k = ((stOf (noughtR l k)).bind (readR l)).bind _
      unfold elR headR
      cases noughtR l k <;> rfl
  rw [hX]
  obtain ⟨X, hXe⟩ : ∃ X, X = s1.bind (readR l) := ⟨_, rfl⟩
  have HC := Lib.hid (fun W (g : Rs W q l s1) => show Calls Tryz.prog 97 #[.pointer (some ⟨q, 0, none⟩)] W fun e w' => ∃ (i : I) (A : Option Addr) (c : Nat), e = .returned (insV i A c) ∧ Rs w' q l (stOf X) ∧ (∀ y k, X = .ok y k → i = y) ∧ W.grownBy w' (some q) from by have := refC_v g; rw [← hXe] at this; exact this)
  rw [← hXe]
  obtain ⟨n, s3, hn0, hcount, hinv⟩ := count_startS (l := l) (s := stOf X)
  obtain ⟨R, hR⟩ : ∃ R, R = (stOf X).bind (labelsR l) := ⟨_, rfl⟩
  rw [← hR] at hinv
  obtain ⟨T, hT⟩ : ∃ T, T = X.bind fun i k1 => (labelsR l k1).bind fun fs k2 => .ok (⟨i, fs⟩ : El) k2 := ⟨_, rfl⟩
  have HT := Lib.hid (fun (i : I) (hi : ∀ y k, X = .ok y k → i = y) => show T = R.bind fun fs k2 => .ok (⟨i, fs⟩ : El) k2 by rw [hT, hR]; exact el_fin hi)
  rw [← hT]
  have HX0 := Lib.hid (fun W (h : Rs W q l (stOf X)) => show Calls Tryz.prog 49 #[.pointer (some ⟨q, 0, none⟩)] W fun e w' => e = .returned (.int .i64 n) ∧ Rs w' q l s3 ∧ W.grownBy w' (some q) from by have := count_st h; rw [hcount.1, hcount.2] at this; exact this)
  have HINV := Lib.hid hinv
  rw [← hs1] at hpre
  clear hcount hinv hR hT hX hXe
  rcases hpre with hB | ⟨k, k', c0, rfl, dc, hs1b, y1b, hB⟩
  · have HB := Lib.hid hB
    have hq0 := hq
    clear h hB hs1
    go_enter Tryz.func63, Tryz.ntmps63
    go_wp2_with (first
      | (go_at_call 106; go_must ((with_reducible refine HB.out.mono ?_); rintro e w1 ⟨rfl, hs, hg⟩; have HS1 := Lib.hid hs; have HG1 := Lib.hid hg; clear hs hg y1))
      | (go_at_call 97; go_must ((with_reducible refine (HC.out _ HS1.out).mono ?_); intro e w3 hq; obtain ⟨i, A, c, rfl, hs, hv, hg⟩ := hq; have HV := Lib.hid hv; have HG3 := Lib.hid (RLe.start (i := i) (A := A) (c := c) hq0 (gb_trans HG1.out hg) hs); clear hs hv hg))
      | (go_at_call 49; go_must ((with_reducible refine (HX0.out _ HG3.out.rs).mono ?_); rintro e w4 ⟨rfl, hs, hg⟩; have HG4 := Lib.hid (HG3.out.call hs hg); clear hs hg)))
    generalize w3.heap.size = bt at *
    go_loopw [6] (fun ix wr => ∃ (j : Nat) (s : RSt) (v : Value) (acc : List Int), j ≤ n ∧ ix = .int .i64 j ∧ RLe w q l bt i A c s v v acc wr ∧ Inv32 l n j s acc R) (fun ix _ => n - (intOf ix).toNat)
    case atStart => exact ⟨0, s3, _, [], Nat.zero_le _, rfl, HG4.out, HINV.out⟩
    case round =>
      obtain ⟨j, s, v, acc, hj, rfl, hrl, hiv⟩ := hrel
      have HR := Lib.hid hrl
      have b0 := hrl.box.cell 0
      have b1 := hrl.box.cell 1
      have b2 := hrl.box.cell 2
      have b3 := hrl.box.cell 3
      have b4 := hrl.box.cell 4
      have f4 := hrl.box.frozen 4
      have r0 := hrl.res.cell 0
      have r1 := hrl.res.cell 1
      have r2 := hrl.res.cell 2
      have r3 := hrl.res.cell 3
      have r4 := hrl.res.cell 4
      have z0 := hrl.res.frozen 0
      have z1 := hrl.res.frozen 1
      have z2 := hrl.res.frozen 2
      have z3 := hrl.res.frozen 3
      have z4 := hrl.res.frozen 4
      simp only [List.getElem?_toArray, List.getElem?_cons_zero, List.getElem?_cons_succ] at b0 b1 b2 b3 b4 r0 r1 r2 r3 r4
      have hh2 := hrl.h2
      have nn1 : ¬ bt = w.heap.size := by omega
      have nn2 : ¬ w.heap.size = bt := by omega
      cases s with
      | bad ec ea =>
        have hRe : R = .err ec ea := hiv
        have HTE := Lib.hid (show T = .err ec ea by rw [HT.out i HV.out, hRe]; rfl)
        have x2 := why_bad hrl.rs
        have hnz := hrl.rs.nz
        have dw : (ec == 0) = false := by simpa using hnz
        clear hnz hRe
        by_cases hlt : j < n
        all_goals
          obtain ⟨F, f, hvv, _, _⟩ := Row32.labT hrl.row
          subst hvv
          clear hrl hiv
          go_wp2_with fail
          obtain ⟨⟨q0, q1, q2, q3, q4⟩, hf⟩ := RLe.fin HR.out (T := T) (by rw [HTE.out]; rfl) (by rw [HTE.out]; exact (fun y k e => by cases e)) _ rfl
          exact bodyPost_ret (v := elV ⟨i, acc⟩ A c F f) (by simp [results, Tryz.results63, go_sem, q0, q1, q2, q3, q4]) rfl hf
      | «at» p =>
        have x2 := why_at hrl.rs
        obtain ⟨hal, hik⟩ := hiv
        by_cases hlt : j < n
        · rw [idxK_more hlt] at hik
          obtain ⟨x, s2, hx0, hx1, hix, hinv2⟩ := index_step hik hal hlt
          have HX := Lib.hid (fun W (h : Rs W q l (.at p)) => show Calls Tryz.prog 94 #[.pointer (some ⟨q, 0, none⟩)] W fun e w' => e = .returned (.int .u32 x) ∧ Rs w' q l s2 ∧ W.grownBy w' (some q) from by have := index_ref h; rw [show (RSt.at p).bind (indexR l) = indexR l p from rfl, hix.1, hix.2] at this; exact this)
          obtain ⟨acc2, hacc2⟩ : ∃ acc2, acc2 = acc ++ [x] := ⟨_, rfl⟩
          rw [← hacc2] at hinv2
          have HA2 := Lib.hid hacc2
          have HINV2 := Lib.hid hinv2
          have hal2 : acc.length ≤ 10000 := by omega
          clear hrl hik hix hinv2 hacc2
          go_wp2_with fail
          go_region_law (first
            | (refine step32 (by rfl) _ _ (by rfl) (bt + 1) _ acc (by rfl) (HK1.out.row.alloc _) w5.heap.size x (by rfl) (Whole.made w5 _ _) hal2 (Nat.le_trans HK1.out.box.lt (below_box w5 _).size) ?_; intro v2 w6 hr6 hg6; have HK2 := Lib.hid (show RLe w q l bt i A c _ v v2 acc2 w6 from by rw [HA2.out]; exact HK1.out.app hr6 hg6); obtain ⟨A9, cap9, hv9, _⟩ := lies_own HK2.out.row; subst hv9; have f3b := HK2.out.box.frozen 4; have k3b : w6.cell? ⟨bt, 4, none⟩ = some v := HK2.out.box.cell 4; clear hr6 hg6)
            | (go_simp; go_at_call 94; (with_reducible refine (HX.out wr.drew (Rs.drew HR.out.rs)).mono ?_); rintro e w5 ⟨rfl, hs, hg⟩; have HK1 := Lib.hid (HR.out.call hs (gb_of_drew1 hg)); have hk1 : w5.cell? ⟨bt, 4, none⟩ = some v := HK1.out.box.cell 4; have hl5 := HK1.out.box.lt; have n5 : ¬ bt = w5.heap.size := (by omega); clear hs hg))
          all_goals
            go_wp2
            go_roundw
            case rel => exact ⟨j + 1, s2, _, acc2, by omega, by go_num, HK2.out.store, HINV2.out⟩
            case measure => simp [intOf]; omega
        · obtain rfl : j = n := by omega
          rw [Nat.sub_self] at hik
          have hRe : R = .ok acc p := hik.symm
          have HTE := Lib.hid (show T = .ok (⟨i, acc⟩ : El) p by rw [HT.out i HV.out, hRe]; rfl)
          have hiv := hal
          clear hik hRe hal
          obtain ⟨F, f, hvv, _, _⟩ := Row32.labT hrl.row
          subst hvv
          clear hrl hiv
          go_wp2_with fail
          obtain ⟨⟨q0, q1, q2, q3, q4⟩, hf⟩ := RLe.fin HR.out (T := T) (by rw [HTE.out]; rfl) (by rw [HTE.out]; exact (fun y k e => by injection e with e1 e2)) _ rfl
          exact bodyPost_ret (v := elV ⟨i, acc⟩ A c F f) (by simp [results, Tryz.results63, go_sem, q0, q1, q2, q3, q4]) rfl hf
  · clear hs1
    subst hs1b
    have HB := Lib.hid hB
    have hq0 := hq
    have HF := Lib.hid (fun W (g : Rs W q l (.at k')) => show Calls Tryz.prog 95 #[.pointer (some ⟨q, 0, none⟩), .int .i64 10, .int .i64 k] W fun e w' => e = .returned (.tuple #[]) ∧ Rs w' q l (.bad 10 k) ∧ W.grownBy w' (some q) from fail_ref g 10 k (by decide))
    clear h hB y1
    go_enter Tryz.func63, Tryz.ntmps63
    go_wp2_with (first
      | (go_at_call 106; go_must ((with_reducible refine HB.out.mono ?_); rintro e w1 ⟨rfl, hs, hg⟩; have HS1 := Lib.hid hs; have HG1 := Lib.hid hg; clear hs hg y1b))
      | (go_at_call 95; go_must ((with_reducible refine (HF.out _ HS1.out).mono ?_); rintro e w2 ⟨rfl, hs, hg⟩; have HS2 := Lib.hid hs; have HG2 := Lib.hid (gb_trans HG1.out hg); clear hs hg))
      | (go_at_call 97; go_must ((with_reducible refine (HC.out _ HS2.out).mono ?_); intro e w3 hq; obtain ⟨i, A, c, rfl, hs, hv, hg⟩ := hq; have HV := Lib.hid hv; have HG3 := Lib.hid (RLe.start (i := i) (A := A) (c := c) hq0 (gb_trans HG2.out hg) hs); clear hs hv hg))
      | (go_at_call 49; go_must ((with_reducible refine (HX0.out _ HG3.out.rs).mono ?_); rintro e w4 ⟨rfl, hs, hg⟩; have HG4 := Lib.hid (HG3.out.call hs hg); clear hs hg)))
    generalize w3.heap.size = bt at *
    go_loopw [6] (fun ix wr => ∃ (j : Nat) (s : RSt) (v : Value) (acc : List Int), j ≤ n ∧ ix = .int .i64 j ∧ RLe w q l bt i A c s v v acc wr ∧ Inv32 l n j s acc R) (fun ix _ => n - (intOf ix).toNat)
    case atStart => exact ⟨0, s3, _, [], Nat.zero_le _, rfl, HG4.out, HINV.out⟩
    case round =>
      obtain ⟨j, s, v, acc, hj, rfl, hrl, hiv⟩ := hrel
      have HR := Lib.hid hrl
      have b0 := hrl.box.cell 0
      have b1 := hrl.box.cell 1
      have b2 := hrl.box.cell 2
      have b3 := hrl.box.cell 3
      have b4 := hrl.box.cell 4
      have f4 := hrl.box.frozen 4
      have r0 := hrl.res.cell 0
      have r1 := hrl.res.cell 1
      have r2 := hrl.res.cell 2
      have r3 := hrl.res.cell 3
      have r4 := hrl.res.cell 4
      have z0 := hrl.res.frozen 0
      have z1 := hrl.res.frozen 1
      have z2 := hrl.res.frozen 2
      have z3 := hrl.res.frozen 3
      have z4 := hrl.res.frozen 4
      simp only [List.getElem?_toArray, List.getElem?_cons_zero, List.getElem?_cons_succ] at b0 b1 b2 b3 b4 r0 r1 r2 r3 r4
      have hh2 := hrl.h2
      have nn1 : ¬ bt = w.heap.size := by omega
      have nn2 : ¬ w.heap.size = bt := by omega
      cases s with
      | bad ec ea =>
        have hRe : R = .err ec ea := hiv
        have HTE := Lib.hid (show T = .err ec ea by rw [HT.out i HV.out, hRe]; rfl)
        have x2 := why_bad hrl.rs
        have hnz := hrl.rs.nz
        have dw : (ec == 0) = false := by simpa using hnz
        clear hnz hRe
        by_cases hlt : j < n
        all_goals
          obtain ⟨F, f, hvv, _, _⟩ := Row32.labT hrl.row
          subst hvv
          clear hrl hiv
          go_wp2_with fail
          obtain ⟨⟨q0, q1, q2, q3, q4⟩, hf⟩ := RLe.fin HR.out (T := T) (by rw [HTE.out]; rfl) (by rw [HTE.out]; exact (fun y k e => by cases e)) _ rfl
          exact bodyPost_ret (v := elV ⟨i, acc⟩ A c F f) (by simp [results, Tryz.results63, go_sem, q0, q1, q2, q3, q4]) rfl hf
      | «at» p =>
        have x2 := why_at hrl.rs
        obtain ⟨hal, hik⟩ := hiv
        by_cases hlt : j < n
        · rw [idxK_more hlt] at hik
          obtain ⟨x, s2, hx0, hx1, hix, hinv2⟩ := index_step hik hal hlt
          have HX := Lib.hid (fun W (h : Rs W q l (.at p)) => show Calls Tryz.prog 94 #[.pointer (some ⟨q, 0, none⟩)] W fun e w' => e = .returned (.int .u32 x) ∧ Rs w' q l s2 ∧ W.grownBy w' (some q) from by have := index_ref h; rw [show (RSt.at p).bind (indexR l) = indexR l p from rfl, hix.1, hix.2] at this; exact this)
          obtain ⟨acc2, hacc2⟩ : ∃ acc2, acc2 = acc ++ [x] := ⟨_, rfl⟩
          rw [← hacc2] at hinv2
          have HA2 := Lib.hid hacc2
          have HINV2 := Lib.hid hinv2
          have hal2 : acc.length ≤ 10000 := by omega
          clear hrl hik hix hinv2 hacc2
          go_wp2_with fail
          go_region_law (first
            | (refine step32 (by rfl) _ _ (by rfl) (bt + 1) _ acc (by rfl) (HK1.out.row.alloc _) w5.heap.size x (by rfl) (Whole.made w5 _ _) hal2 (Nat.le_trans HK1.out.box.lt (below_box w5 _).size) ?_; intro v2 w6 hr6 hg6; have HK2 := Lib.hid (show RLe w q l bt i A c _ v v2 acc2 w6 from by rw [HA2.out]; exact HK1.out.app hr6 hg6); obtain ⟨A9, cap9, hv9, _⟩ := lies_own HK2.out.row; subst hv9; have f3b := HK2.out.box.frozen 4; have k3b : w6.cell? ⟨bt, 4, none⟩ = some v := HK2.out.box.cell 4; clear hr6 hg6)
            | (go_simp; go_at_call 94; (with_reducible refine (HX.out wr.drew (Rs.drew HR.out.rs)).mono ?_); rintro e w5 ⟨rfl, hs, hg⟩; have HK1 := Lib.hid (HR.out.call hs (gb_of_drew1 hg)); have hk1 : w5.cell? ⟨bt, 4, none⟩ = some v := HK1.out.box.cell 4; have hl5 := HK1.out.box.lt; have n5 : ¬ bt = w5.heap.size := (by omega); clear hs hg))
          all_goals
            go_wp2
            go_roundw
            case rel => exact ⟨j + 1, s2, _, acc2, by omega, by go_num, HK2.out.store, HINV2.out⟩
            case measure => simp [intOf]; omega
        · obtain rfl : j = n := by omega
          rw [Nat.sub_self] at hik
          have hRe : R = .ok acc p := hik.symm
          have HTE := Lib.hid (show T = .ok (⟨i, acc⟩ : El) p by rw [HT.out i HV.out, hRe]; rfl)
          have hiv := hal
          clear hik hRe hal
          obtain ⟨F, f, hvv, _, _⟩ := Row32.labT hrl.row
          subst hvv
          clear hrl hiv
          go_wp2_with fail
          obtain ⟨⟨q0, q1, q2, q3, q4⟩, hf⟩ := RLe.fin HR.out (T := T) (by rw [HTE.out]; rfl) (by rw [HTE.out]; exact (fun y k e => by injection e with e1 e2)) _ rfl
          exact bodyPost_ret (v := elV ⟨i, acc⟩ A c F f) (by simp [results, Tryz.results63, go_sem, q0, q1, q2, q3, q4]) rfl hf
end Go.Proofs.YtebgmfjgapmpfaaGreatDoor

/- segment.Head, elems.Put. -/
namespace Go.Proofs.YtebgmfjgapmpfaaGreatDoor
open Go.RowKit
set_option linter.unusedVariables false
set_option maxRecDepth 100000

set_option maxHeartbeats 2000000 in
theorem head_ok (i : I) (A : Option Addr) (c : Nat) (w : World) (h : i.Ok) (hT : Tabs w) (h0 : crightZ i = 0) :
    Calls Tryz.prog 101 #[insV i A c] w fun e w' => ∃ v, e = .returned (.tuple #[v, .int .i64 0]) ∧ Row w' w.heap.size v (0 :: cputL i) ∧ Below w.heap.size w w' := by
  have HB := Lib.hid (BoxI.start w i A c)
  have hcl := cputL_len h h0
  have HP := Lib.hid (fun W (hb : Below w.heap.size w W) => show Calls Tryz.prog 85 #[insV i A c] W fun e w' => ∃ v, e = .returned (.tuple #[v, .int .i64 0]) ∧ Row w' W.heap.size v (cputL i) ∧ Below W.heap.size W w' from
    (cput2_any i A c W h (hT.below hb) h0).mono fun e w' ⟨v, h1, h2, h3⟩ => ⟨v, by rw [h0] at h1; exact h1, by rw [if_pos h0] at h2; exact h2, h3⟩)
  obtain ⟨y, hy⟩ : ∃ y, y = cputL i := ⟨_, rfl⟩
  rw [← hy] at hcl HP ⊢
  have HCC := Lib.hid (fun (W : World) (A2 : Option Addr) (k2 : Nat) (hl : Lies W W.heap.size A2 (cells (nums y))) (hA : A2 = none → k2 = 0) => show Calls Tryz.prog 135 #[.slice (some ⟨W.heap.size + 1, 0, none⟩) 2 2] ((W.alloc (.cells #[.int .u8 0] 5)).alloc (.cells #[.slice (some ⟨W.heap.size, 0, none⟩) 1 1, .slice A2 y.length k2] 22)) (BytesL (0 :: y) ((W.alloc (.cells #[.int .u8 0] 5)).alloc (.cells #[.slice (some ⟨W.heap.size, 0, none⟩) 1 1, .slice A2 y.length k2] 22))) from
    cat2 (op := 0) (g1 := W.heap.size) (W := W.alloc (.cells #[.int .u8 0] 5)) (size_box _ _) (Whole.made W 5 #[.int .u8 0]) (lies_box hl _) hA (by omega))
  clear h hT h0 hy hcl
  go_enter Tryz.func101, Tryz.ntmps101
  go_wp2_with (first
    | (go_at_call 85; go_must ((with_reducible refine (HP.out _ HB.out.bel).mono ?_); intro e w2 hq; obtain ⟨v, rfl, hr, hb⟩ := hq; obtain ⟨A2, k2, rfl, hl2, hA2, _⟩ := hr.liesN; have HL2 := Lib.hid hl2; have HA2 := Lib.hid hA2; have HB2 := Lib.hid (HB.out.on hb); clear hl2 hA2 hr hb))
    | (go_at_call 135; go_must ((with_reducible refine (HCC.out w2 A2 k2 HL2.out HA2.out).mono ?_); intro e w4 hq; obtain ⟨v4, rfl, hr4, hb4⟩ := hq; have HR4 := Lib.hid hr4; have HB4 := Lib.hid ((((below_box w2 (.cells #[.int .u8 0] 5)).alloc (below_box w2 _).size (.cells #[.slice (some ⟨w2.heap.size, 0, none⟩) 1 1, .slice A2 y.length k2] 22))).trans (hb4.mono (by simp; omega))); clear hr4 hb4)))
  go_ret2
  have hz := HB2.out.bel.size
  exact ⟨_, rfl, HR4.out.mono (by simp; omega), HB2.out.bel.trans (HB4.out.mono hz)⟩
/-- Its bytes. -/
noncomputable def eputL (x : El) : List UInt8 := (0 :: cputL x.i) ++ labL x.fs
theorem eputL_len {x : El} (h : x.i.Ok) (h0 : crightZ x.i = 0) (hc : ∀ c ∈ x.fs, 0 ≤ c ∧ c ≤ 4294967295) (hn : x.fs.length ≤ 100) : 3 ≤ (eputL x).length ∧ (eputL x).length ≤ 1043 := by
  have h1 := cputL_len h h0
  have h2 := lebL_len (x.fs.length : Int) (by omega)
  have h3 := labsL_len x.fs hc
  unfold eputL labL
  rw [List.length_append, List.length_append, List.length_cons]
  omega
/-- What Put hands back. -/
def PuttedEl (x : El) (w : World) (e : Ending) (w' : World) : Prop := ∃ v, e = .returned (.tuple #[v, .int .i64 (crightZ x.i)]) ∧ Row w' w.heap.size v (if crightZ x.i = 0 then eputL x else []) ∧ Below w.heap.size w w'
set_option maxHeartbeats 8000000 in
theorem put_el (x : El) (A : Option Addr) (c : Nat) (F : Option Addr) (f : Nat) (w : World) (oi : x.i.Ok) (hT : Tabs w) (hl : (x.i.l.length : Int) ≤ 9223372036854775807) (hF : LiesL w F x.fs) (hc : ∀ c ∈ x.fs, 0 ≤ c ∧ c ≤ 4294967295) (hn : x.fs.length ≤ 100) :
    Calls Tryz.prog 59 #[elV x A c F f] w (PuttedEl x w) := by
  have H0 := Lib.hid (bxEl_start w x A c F f)
  have HR := Lib.hid (elright_any x A c F f _ oi (hT.below (below_box w (.cells (elC x A c F f) 62))) hl (by omega))
  unfold PuttedEl
  by_cases h0 : crightZ x.i = 0
  · rw [if_pos h0]
    have hel := eputL_len oi h0 hc hn
    have hsp : eputL x = (0 :: cputL x.i) ++ labL x.fs := rfl
    have HH := Lib.hid (fun W (hb : Below w.heap.size w W) => head_ok x.i A c W oi (hT.below hb) h0)
    have HI := Lib.hid (fun W (hb : Below w.heap.size w W) => labels_any (w := W) (A := F) (c := f) (l := x.fs) (hF.below hb) (by omega) hc)
    rw [h0] at HR ⊢
    rw [hsp] at hel ⊢
    rw [List.length_append] at hel
    obtain ⟨g, hg⟩ : ∃ g, g = 0 :: cputL x.i := ⟨_, rfl⟩
    obtain ⟨y, hy⟩ : ∃ y, y = labL x.fs := ⟨_, rfl⟩
    rw [← hg] at HH hel ⊢
    rw [← hy] at HI hel ⊢
    have hgy : g.length + y.length ≤ 1000000 := by omega
    clear hsp hT h0 oi hl hg hy hF hc hn
    go_enter Tryz.func59, Tryz.ntmps59
    go_wp2_with (first
      | (go_at_call 100; go_must ((with_reducible refine HR.out.mono ?_); rintro e w1 ⟨rfl, hb⟩; have H1 := Lib.hid (bxEl_on H0.out hb); obtain ⟨c0, c1, c2, c3, c4⟩ := H1.out.2; clear hb))
      | (go_at_call 101; go_must ((with_reducible refine (HH.out _ (bxEl_bel H1.out)).mono ?_); intro e w2 hq; obtain ⟨v2, rfl, hr, hb⟩ := hq; clear c0 c1 c2 c3 c4; have HR2 := Lib.hid hr; have H2 := Lib.hid (bxEl_on H1.out hb); have hz2 := hb.size; obtain ⟨c0, c1, c2, c3, c4⟩ := H2.out.2; clear hb hr))
      | (go_at_call 102; go_must ((with_reducible refine (HI.out _ (bxEl_bel H2.out)).mono ?_); intro e w3 hq; obtain ⟨v3, rfl, hr, hb⟩ := hq; obtain ⟨A3, cp3, rfl, hpc⟩ := hr.pc; have H3 := Lib.hid (bxEl_on H2.out hb); have HP3 := Lib.hid hpc; have HR3 := Lib.hid (HR2.out.later hb); have hz3 := hb.size; clear hb hr hpc c0 c1 c2 c3 c4))
      | (at_builtin; (refine row_any rfl _ _ rfl w1.heap.size _ g rfl HR3.out A3 y.length cp3 _ y rfl rfl HP3.out.lies HP3.out.nil hgy (Nat.le_trans hz2 hz3) ?_; intro v4 w4 hr4 hb4; have HR4 := Lib.hid hr4; have HB4 := Lib.hid hb4; clear hr4 hb4)))
    go_ret2
    exact ⟨_, rfl, HR4.out.mono (bxEl_bel H1.out).size, (bxEl_bel H3.out).trans (HB4.out.mono (bxEl_bel H1.out).size)⟩
  · rw [if_neg h0]
    have d0 : (crightZ x.i != 0) = true := zb_of (by simpa using h0)
    obtain ⟨z, hz⟩ : ∃ z, z = crightZ x.i := ⟨_, rfl⟩
    rw [← hz] at HR d0 ⊢
    clear h0 hz hT oi hl hF hc hn
    go_enter Tryz.func59, Tryz.ntmps59
    go_wp2_with (go_at_call 100; go_must ((with_reducible refine HR.out.mono ?_); rintro e w1 ⟨rfl, hb⟩; have H1 := Lib.hid (bxEl_on H0.out hb); clear hb))
    go_ret2
    exact ⟨_, rfl, Row.nil _ _, bxEl_bel H1.out⟩
end Go.Proofs.YtebgmfjgapmpfaaGreatDoor
