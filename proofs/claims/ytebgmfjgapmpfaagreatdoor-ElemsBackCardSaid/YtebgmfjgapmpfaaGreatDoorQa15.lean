/- The walk of ElemsBack. -/
import Derived.Test.YtebgmfjgapmpfaaGreatDoorQa14
import Derived.Deep.CutBlock
import Derived.Deep.DeepCutAuto
import Derived.Test.YtebgmfjgapmpfaaGreatDoorQa12
import Derived.ProofKit
import Derived.OpenShut
import Derived.ShutString
import Derived.ChangeOld
import Derived.ChangeSame
import Derived.Deep.Slices
import Derived.Deep.Fields
import Derived.Lib.SmallJoins
import Derived.Test.YtebgmfjgapmpfaaGreatDoorQa06
import Derived.Test.YtebgmfjgapmpfaaGreatDoorQa11
import Derived.RegionTactic
import Derived.Test.YtebgmfjgapmpfaaGreatDoorQa09
import Derived.Test.YtebgmfjgapmpfaaGreatDoorQa01
namespace Go.Proofs.YtebgmfjgapmpfaaGreatDoor
open Go.RowKit
set_option linter.unusedVariables false
set_option maxRecDepth 100000

theorem takeEl_one {l : List SlotEl} {k : Nat} {x : SlotEl} (h : l[k]? = some x) : l.take (k + 1) = l.take k ++ [x] := by rw [List.take_add_one, h]; rfl
theorem elsK_at {l : List UInt8} : ∀ (rows : List SlotEl) (k : Nat) (acc : List El) (r : List UInt8), OkEl rows → errEl rows = 0 → l.drop k = elputsL rows ++ r → elsK l rows.length k acc = .ok (acc ++ rows.map (·.1)) (k + (elputsL rows).length)
  | [], k, acc, r, _, _, _ => by simp [elsK, elputsL]
  | x :: rows, k, acc, r, ho, h0, h => by
    have z := errEl_mem h0 x (by simp)
    have h5 : errEl rows = 0 := by simpa [errEl, z] using h0
    have hd : l.drop k = qputL x ++ (elputsL rows ++ r) := by rw [h]; unfold elputsL; rw [List.flatMap_cons, List.append_assoc]
    have hq := ho x (by simp)
    have hg := elR_at hq.1 z hq.2.2.1 hq.2.2.2 hd
    have hd2 := drop_past hd
    have ih := elsK_at rows _ (acc ++ [x.1]) r (fun y hy => ho y (List.mem_cons_of_mem _ hy)) h5 hd2
    rw [List.length_cons]
    show (elR l k).bind (fun x q2 => elsK l rows.length q2 (acc ++ [x])) = _
    rw [hg, Res.bind_ok]
    have e : k + (eputL x.1).length = k + (qputL x).length := rfl
    rw [e, ih]
    unfold elputsL
    rw [List.flatMap_cons, List.length_append, List.map_cons, List.append_assoc, List.singleton_append, Nat.add_assoc]
/-- What PutAll wrote is read. -/
theorem elsR_at {rows : List SlotEl} (ho : OkEl rows) (h0 : errEl rows = 0) (hn : rows.length ≤ 10000) : elsR (allEl rows) 0 = .ok (rows.map (·.1)) (allEl rows).length := by
  have hd : (allEl rows).drop 0 = lebL (rows.length : Int) ++ elputsL rows := rfl
  have h1 := countR_at hd (by omega) (by omega)
  rw [Nat.zero_add] at h1
  have h2 := drop_past hd
  rw [Nat.zero_add] at h2
  unfold elsR
  rw [h1, Res.bind_ok, Int.toNat_natCast, elsK_at rows _ [] [] ho h0 (by rw [List.append_nil]; exact h2), Res.bind_ok, List.nil_append]
  have e : (lebL (rows.length : Int)).length + (elputsL rows).length = (allEl rows).length := by unfold allEl; rw [List.length_append]
  rw [e, if_neg (by omega)]
/-- What the law keeps once the list is read. -/
structure BKEl (w : World) (N base : Nat) (xs : List El) (A2 : Option Addr) (c2 : Nat) (B : Nat) (Ab : Option Addr) (y : List UInt8) (W : World) : Prop where
  bel : Below w.heap.size w W
  r : ∃ rows, RowEl W base (.slice A2 N c2) rows ∧ rows.map (·.1) = xs
  ly : Lies W B Ab (cells (nums y))
  o : B ≤ W.heap.size
theorem BKEl.grown {w W W' : World} {N base B c2 q : Nat} {xs : List El} {A2 Ab : Option Addr} {y : List UInt8} (h : BKEl w N base xs A2 c2 B Ab y W) (hg : W.grownBy W' (some q)) (h1 : w.heap.size ≤ q) (h2 : q < base) (h3 : B ≤ q) : BKEl w N base xs A2 c2 B Ab y W' :=
  ⟨below_new h.bel hg h1, (by obtain ⟨rows, r1, r2⟩ := h.r; exact ⟨rows, r1.past hg h2, r2⟩), h.ly.grown hg h.o (fun g e => by injection e with e; omega), Nat.le_trans h.o hg.size⟩
theorem BKEl.below {w W W' : World} {N base B c2 : Nat} {xs : List El} {A2 Ab : Option Addr} {y : List UInt8} (h : BKEl w N base xs A2 c2 B Ab y W) (hb : Below W.heap.size W W') : BKEl w N base xs A2 c2 B Ab y W' :=
  ⟨h.bel.trans (hb.mono h.bel.size), (by obtain ⟨rows, r1, r2⟩ := h.r; exact ⟨rows, r1.later hb, r2⟩), h.ly.below hb h.o, Nat.le_trans h.o hb.size⟩
set_option maxHeartbeats 8000000 in
theorem lawElB {w : World} {A : Option Addr} {c : Nat} {l : List SlotEl} (hl : Es w A l) (ho : ∀ x ∈ l, x.1.i.Ok ∧ (x.1.i.l.length : Int) ≤ 9223372036854775807 ∧ ∀ c ∈ x.1.fs, 0 ≤ c ∧ c ≤ 4294967295) (hT : Tabs w) (nl : (l.length : Int) ≤ 9223372036854775807) :
    Calls Tryz.prog 6 #[.slice A l.length c] w fun e w' => e = .returned (.bool true) ∧ Below w.heap.size w w' := by
  have HAW := Lib.hid (elawake_any w hT)
  have HL := Lib.hid hl
  have HTw := Lib.hid hT
  have HO := Lib.hid ho
  clear hl hT ho
  by_cases g1 : 20 < l.length
  · have t1 : decide ((20 : Int) < (l.length : Int)) = true := decide_eq_true (by omega)
    clear g1
    go_enter Tryz.func6, Tryz.ntmps6
    go_wp2_with (go_at_call 20; go_must ((with_reducible refine HAW.out.mono ?_); rintro e w1 ⟨rfl, hb⟩; have H1 := Lib.hid hb; clear hb))
    go_ret
    exact ⟨rfl, H1.out⟩
  have t1 : decide ((20 : Int) < (l.length : Int)) = false := decide_eq_false (by omega)
  have HRC := Lib.hid (fun W => relcount_any l.length W (by omega))
  have hlb := lebL_len (l.length : Int) (by omega)
  obtain ⟨hd, hhd⟩ : ∃ hd, hd = lebL (l.length : Int) := ⟨_, rfl⟩
  rw [← hhd] at HRC hlb
  have HAL := Lib.hid (show allEl l = hd ++ elputsL l by rw [hhd]; rfl)
  obtain ⟨n, hn⟩ : ∃ n, n = l.length := ⟨_, rfl⟩
  have HN := Lib.hid hn
  have HE := Lib.hid (show l.take n = l by rw [hn, List.take_length])
  have h20 : n ≤ 20 := by omega
  rw [← hn] at t1 HRC ⊢
  clear hn hhd g1 nl
  go_enter Tryz.func6, Tryz.ntmps6
  go_wp2_with (first
    | (go_at_call 20; go_must ((with_reducible refine HAW.out.mono ?_); rintro e w1 ⟨rfl, hb⟩; have H1 := Lib.hid hb; clear hb))
    | (go_at_call 26; go_must ((with_reducible refine (HRC.out _).mono ?_); rintro e w2 ⟨rfl, hb⟩; have H2 := Lib.hid (H1.out.trans (hb.mono H1.out.size)); clear hb)))
  go_loopw [3, 4, 5] (fun code want i wr => ∃ (k : Nat) (t : List UInt8), k ≤ n ∧ i = .int .i64 k ∧ code = .int .i64 (errEl (l.take k)) ∧ want = .string (S t) ∧ t.length ≤ 10 + k * 1043 ∧ (errEl (l.take k) = 0 → t = hd ++ elputsL (l.take k)) ∧ (∀ x ∈ l.take k, x.1.fs.length ≤ 100) ∧ Below w.heap.size w wr) (fun _ _ i _ => n - (intOf i).toNat)
  case atStart => exact ⟨0, hd, Nat.zero_le _, rfl, rfl, rfl, by omega, (fun _ => by simp [elputsL]), (fun x hx => by simp at hx), H2.out⟩
  case round =>
    obtain ⟨k, t, hk, rfl, rfl, rfl, htl, htb, hsm, hb⟩ := hrel
    have hz1 := hb.size
    by_cases hlt : k < n
    · obtain ⟨x, hx⟩ : ∃ x, l[k]? = some x := ⟨_, List.getElem?_eq_getElem (by rw [← HN.out]; exact hlt)⟩
      obtain ⟨b, off, rfl, hbl, m0, m1, m2, m3, m4⟩ := (HL.out.below hb).five hx
      have hfu := (HL.out.below hb).funs hx
      have hxo := HO.out x (List.mem_of_getElem? hx)
      have HBA := Lib.hid (hb.alloc hz1 (.cells (qC x) 62))
      have hstep := errEl_snoc hx
      have hpsn := elputsL_snoc hx
      by_cases b0 : 100 < x.1.fs.length
      · have t4 : decide ((100 : Int) < (x.1.fs.length : Int)) = true := decide_eq_true (by omega)
        clear b0 htb hb hx hstep hpsn htl hxo hsm hfu
        go_wp2
        go_ret
        exact ⟨rfl, HBA.out⟩
      have t4 : decide ((100 : Int) < (x.1.fs.length : Int)) = false := decide_eq_false (by omega)
      have hf100 : x.1.fs.length ≤ 100 := by omega
      have HSMN := Lib.hid (show ∀ y ∈ l.take (k + 1), y.1.fs.length ≤ 100 from fun y hy => by
        rw [takeEl_one hx] at hy
        rcases List.mem_append.1 hy with hy | hy
        · exact hsm y hy
        · rw [List.mem_singleton] at hy; subst hy; exact hf100)
      clear b0 hsm
      by_cases b2 : 100 < x.1.i.l.length
      · have t3 : decide ((100 : Int) < (x.1.i.l.length : Int)) = true := decide_eq_true (by omega)
        clear b2 htb hb hx hstep hpsn htl hxo hfu hf100 HSMN
        go_wp2
        go_ret
        exact ⟨rfl, HBA.out⟩
      have t3 : decide ((100 : Int) < (x.1.i.l.length : Int)) = false := decide_eq_false (by omega)
      have HRR := Lib.hid (relright_any x.1 x.2.1.1 x.2.1.2 x.2.2.1 x.2.2.2 (wr.alloc (.cells (qC x) 62)) hxo.1 hxo.2.1)
      have HW := Lib.hid (Whole.made wr 62 (qC x))
      by_cases e0 : errEl (l.take k) = 0
      · rw [if_neg (by simpa using e0)] at hstep
        have ht := htb e0
        have d0 : (errEl (l.take k) == 0) = true := by simpa using e0
        obtain ⟨q, hq⟩ : ∃ q, q = errEl (l.take k) := ⟨_, rfl⟩
        rw [← hq] at d0 ⊢
        by_cases z0 : rEl x = 0
        · have HRP := Lib.hid (fun W (hF : LiesL W x.2.2.1 x.1.fs) => relput_any x.1 x.2.1.1 x.2.1.2 x.2.2.1 x.2.2.2 W hxo.1 z0 hF hxo.2.2 hf100)
          have HFU := Lib.hid (hfu.below (below_box wr (.cells (qC x) 62)))
          have hil := qputL_len (x := x) ⟨hxo.1, hxo.2.1, hxo.2.2, hf100⟩ z0
          rw [show crightZ x.1.i = 0 from z0] at HRR
          rw [z0] at hstep
          have HSTEP := Lib.hid hstep
          have HTT := Lib.hid ht
          have HPS := Lib.hid hpsn
          obtain ⟨y, hy⟩ : ∃ y, y = qputL x := ⟨_, rfl⟩
          rw [show eputL x.1 = y from hy.symm] at HRP
          rw [← hy] at hil HPS
          have st := S_size t
          have sy := S_size y
          have q1 : ¬ 9223372036854775807 < (S t).size + (S y).size := by omega
          clear b2 htb hb hx hstep hpsn e0 hq ht hy z0 st sy hxo hfu hf100
          go_wp2_with (first
            | (go_at_call 27; go_must ((with_reducible refine HRR.out.mono ?_); rintro e w3 ⟨rfl, hb⟩; have H3 := Lib.hid (HBA.out.trans (hb.mono HBA.out.size)); obtain ⟨c0, c1, c2, c3, c4⟩ := (show Whole w3 wr.heap.size 62 (elC x.1 x.2.1.1 x.2.1.2 x.2.2.1 x.2.2.2) from HW.out.below hb).el; have HFU3 := Lib.hid (HFU.out.below hb); clear hb))
            | (go_at_call 28; go_must ((with_reducible refine (HRP.out _ HFU3.out).mono ?_); rintro e w4 ⟨rfl, hb⟩; have H4 := Lib.hid (H3.out.trans (hb.mono H3.out.size)); clear hb)))
          go_roundw
          case rel => exact ⟨k + 1, t ++ y, by omega, by go_num, by rw [HSTEP.out], by rw [S_append], by rw [List.length_append]; omega, (fun _ => by rw [HPS.out, HTT.out, List.append_assoc]), HSMN.out, H4.out⟩
          case measure => simp [intOf]; omega
        · have HSTEP := Lib.hid hstep
          have HZN := Lib.hid z0
          have d1 : (rEl x == 0) = false := by simpa using z0
          obtain ⟨z, hz⟩ : ∃ z, z = rEl x := ⟨_, rfl⟩
          rw [show crightZ x.1.i = z from hz.symm] at HRR
          rw [← hz] at HSTEP HZN d1
          clear b2 htb hb hx hstep hpsn e0 hq ht z0 hz hxo hfu hf100
          go_wp2_with (go_at_call 27; go_must ((with_reducible refine HRR.out.mono ?_); rintro e w3 ⟨rfl, hb⟩; have H3 := Lib.hid (HBA.out.trans (hb.mono HBA.out.size)); clear hb))
          go_roundw
          case rel => exact ⟨k + 1, t, by omega, by go_num, by rw [HSTEP.out], rfl, by omega, (fun e => absurd (HSTEP.out.symm.trans e) HZN.out), HSMN.out, H3.out⟩
          case measure => simp [intOf]; omega
      · rw [if_pos e0] at hstep
        have HSTEP := Lib.hid hstep
        have HCN := Lib.hid e0
        have d0 : (errEl (l.take k) == 0) = false := by simpa using e0
        obtain ⟨q, hq⟩ : ∃ q, q = errEl (l.take k) := ⟨_, rfl⟩
        rw [← hq] at d0 HSTEP HCN ⊢
        clear b2 htb hb hx hstep hpsn e0 hq hxo HRR hfu hf100
        go_wp2
        go_roundw
        case rel => exact ⟨k + 1, t, by omega, by go_num, by rw [HSTEP.out], rfl, by omega, (fun e => absurd (HSTEP.out.symm.trans e) HCN.out), HSMN.out, HBA.out⟩
        case measure => simp [intOf]; omega
    · obtain rfl : k = n := by omega
      rw [HE.out] at htb hsm ⊢
      have HOk := Lib.hid (show OkEl l from fun y hy => ⟨(HO.out y hy).1, (HO.out y hy).2.1, (HO.out y hy).2.2, hsm y hy⟩)
      clear hsm
      have HB := Lib.hid hb
      have hpa := putall_el (c := c) (HL.out.below hb) (HTw.out.below hb) HOk.out (by rw [← HN.out]; omega)
      rw [← HN.out] at hpa
      unfold PuttedAllEl at hpa
      by_cases e0 : errEl l = 0
      · have ht := (htb e0).trans HAL.out.symm
        rw [if_pos e0, e0] at hpa
        have HGA := Lib.hid (show elsR (allEl l) 0 = .ok (l.map (·.1)) (allEl l).length from elsR_at HOk.out e0 (by rw [← HN.out]; omega))
        have HNL := Lib.hid (fun g (hg : g ∈ l.map (·.1)) => show g.i.l = [] ∧ g.fs.length ≤ 100000 from by
          obtain ⟨x, hx, rfl⟩ := List.mem_map.1 hg
          exact ⟨cz_nil (errEl_mem e0 x hx), by have := (HOk.out x hx).2.2.2; omega⟩)
        rw [e0]
        have htl2 : (allEl l).length ≤ 1000000 := by rw [← ht]; omega
        rw [ht]
        obtain ⟨y, hy⟩ : ∃ y, y = allEl l := ⟨_, rfl⟩
        rw [← hy] at hpa HGA htl2 ⊢
        have HPA := Lib.hid hpa
        clear hpa htb hb e0 ht hy htl hlt
        go_upto_region 20 with (first
          | (go_at_call 29; go_must ((with_reducible refine HPA.out.mono ?_); intro e w3 hq; obtain ⟨v, rfl, hr, hb⟩ := hq; obtain ⟨Ab, cb, rfl, hpc⟩ := hr.pc; have H3 := Lib.hid (HB.out.trans (hb.mono HB.out.size)); have HP3 := Lib.hid hpc; clear hb hr hpc))
          | (go_at_call 9; go_must ((with_reducible refine (over_any HP3.out.lies HP3.out.nil htl2).mono ?_); intro e w7 hq; obtain ⟨p, rfl, hpp, hs, hb⟩ := hq; have HS7 := Lib.hid hs; have HB37 := Lib.hid hb; have HB7 := Lib.hid (H3.out.trans (hb.mono H3.out.size)); clear hs hb)))
        have h7p := HS7.out.lt
        have h3z := H3.out.size
        have HS8 := Lib.hid (HS7.out.alloc (.cells #[.pointer (some ⟨p, 0, none⟩)] 24))
        have HPT := Lib.hid (Whole.made w7 24 #[.pointer (some ⟨p, 0, none⟩)])
        have HB8 := Lib.hid (HB7.out.trans ((below_box w7 (.cells #[.pointer (some ⟨p, 0, none⟩)] 24)).mono HB7.out.size))
        have HL8 := Lib.hid (HP3.out.lies.below (HB37.out.trans ((below_box w7 (.cells #[.pointer (some ⟨p, 0, none⟩)] 24)).mono HB37.out.size)) (Nat.le_refl _))
        have h8 : w3.heap.size ≤ (w7.alloc (.cells #[.pointer (some ⟨p, 0, none⟩)] 24)).heap.size := Nat.le_trans HB37.out.size (below_box w7 _).size
        have h87 : w7.heap.size < (w7.alloc (.cells #[.pointer (some ⟨p, 0, none⟩)] 24)).heap.size := HPT.out.lt
        clear HAW H1 H2 HB HPA H3 HP3 HB37 HB7 HS7
        generalize w7.alloc (.cells #[.pointer (some ⟨p, 0, none⟩)] 24) = W8 at *
        generalize w7.heap.size = b6 at *
        have HV := Lib.hid (valueEls_ok (T := fun v W => v.2.1 = l.length ∧ BKEl w l.length (W8.heap.size + 4) (l.map (fun x : SlotEl => x.1)) v.1 v.2.2 w3.heap.size Ab y W) (cfEl2 #[.pointer (some ⟨b6, 0, none⟩)]) (q := p) (w := W8) (by omega)
          (fun q W W' b h1 h2 h3 hg => ⟨h3.1, h3.2.grown hg (by omega) (by omega) (by omega)⟩)
          (fun W hb hsz => by
            have hS := HS8.out.below hb
            have hB := HB8.out.trans (hb.mono HB8.out.size)
            have hcl := closEl2 (HPT.out.below hb) hS (show TbP p W from ⟨w, HTw.out, by omega, hB⟩)
            rw [HGA.out] at hcl
            refine hcl.mono ?_
            rintro e w' ⟨v, rows, rfl, hr, hm, hs, hg⟩
            obtain ⟨A2, c2, rfl⟩ := hr.slice
            have hrl : rows.length = l.length := by have := congrArg List.length hm; rwa [List.length_map, List.length_map] at this
            rw [hrl] at hr ⊢
            exact ⟨(A2, l.length, c2), rfl, ⟨rfl, below_new hB hg (by omega), ⟨rows, hr.mono hsz, hm⟩, (HL8.out.below hb h8).grown hg (Nat.le_trans h8 hb.size) (fun g e => by injection e with e; omega), Nat.le_trans h8 (Nat.le_trans hb.size hg.size)⟩, hg⟩))
        clear HGA HS8 HPT HL8
        go_upto_region 21 with (go_at_call 21; go_must ((with_reducible refine HV.out.mono ?_); rintro e w9 ⟨⟨A2, n2, c2⟩, rfl, ⟨hn2, hbk⟩, hg⟩; have HN2 := Lib.hid hn2; clear hn2; have HBK := Lib.hid (hbk.below (below_box w9 (.cells #[.int .i64 0, .int .i64 0] 32))); have k0 := (Whole.made w9 32 #[.int .i64 0, .int .i64 0]).cell 0; clear hbk hg))
        simp only [List.getElem?_toArray, List.getElem?_cons_zero] at k0
        have hn3 : n2 = k := HN2.out.trans HN.out.symm
        clear HN2
        subst hn3
        generalize w9.alloc (.cells #[.int .i64 0, .int .i64 0] 32) = W10 at *
        have hcv := str_any HBK.out.ly cb 9 Tryz.underlying9
        have HI := Lib.hid (HL.out.below HBK.out.bel)
        obtain ⟨rows, hrr, hrm⟩ := HBK.out.r
        have HJ := Lib.hid (show Es W10 A2 rows from hrr.es)
        have HRM := Lib.hid hrm
        have HSM := Lib.hid (fun W (g : El) (a1 a2 c1 c2 : Option Addr × Nat) (h : g.i.l = [] ∧ g.fs.length ≤ 100000) (h1 : LiesL W c1.1 g.fs) (h2 : LiesL W c2.1 g.fs) => rsame_el (w := W) (x := g) (A := a1.1) (B := a2.1) (c := a1.2) (d := a2.2) (F := c1.1) (G := c2.1) (f := c1.2) (g := c2.2) h.1 h1 h2 h.2)
        clear hrr hrm
        clear HV HB8
        go_wp2
        clear hcv k0
        go_loopw [12] (fun i wr => ∃ j : Nat, j ≤ n2 ∧ i = .int .i64 j ∧ Below w.heap.size w wr ∧ Es wr A l ∧ Es wr A2 rows) (fun i _ => n2 - (intOf i).toNat)
        case atStart => exact ⟨0, Nat.zero_le _, rfl, HBK.out.bel, HI.out, HJ.out⟩
        case round =>
          obtain ⟨j, hj, rfl, hb, hi, hjj⟩ := hrel
          by_cases hlt : j < n2
          · obtain ⟨g, a1, a2, d1, d2, hx, hy⟩ := bothEl_at HRM.out.symm (by rw [← HN.out]; exact hlt : j < l.length)
            have hgn : g.i.l = [] ∧ g.fs.length ≤ 100000 := HNL.out g (List.mem_map.2 ⟨_, List.mem_of_getElem? hx, rfl⟩)
            obtain ⟨b, off, hA, _⟩ := hi.five hx
            obtain ⟨b2, off2, hA2, _⟩ := hjj.five hy
            have hS0 := twoEl_of hb hi hjj hA hA2 hx hy
            have HS0 := Lib.hid (twoEl_on hS0 hA hA2 hx hy (Below.refl _ _).drew)
            have HON := Lib.hid (fun W W' (h : TwoEl w A A2 l rows b off b2 off2 j g a1 a2 d1 d2 W) (hb : Below W.heap.size W W') => twoEl_on h hA hA2 hx hy hb)
            have HSg := Lib.hid (fun W (h : TwoEl w A A2 l rows b off b2 off2 j g a1 a2 d1 d2 W) => HSM.out W g a2 a1 d2 d1 hgn (h.1.2.2.funs hy) (h.1.2.1.funs hx))
            subst hA; subst hA2
            clear hx hy hb hi hjj hS0 hgn
            go_upto_region 26 with fail
            refine wp_region_noPanic ?_
            refine wp_region_held_drew (S := fun W => TwoEl w (some ⟨b, off, none⟩) (some ⟨b2, off2, none⟩) l rows b off b2 off2 j g a1 a2 d1 d2 W) (by kernel_rfl) HS0.out (fun hHeld => ?_)
            (refine heldTake (i := 0) (oi := { dst := some 100, op := Op.move (Operand.tmp 10), type := 54, pos := "law.go:97", after := #[], guard := none }) (v := ?_) rfl (by kernel_rfl) (by kernel_rfl) (by kernel_rfl) (by assumption) ?_ ?_; rotate_left; focus (refine .inl ⟨by kernel_rfl, ?_⟩; intro w hSw; (try dsimp only at hSw); go_simp; (try with_reducible rfl)); (try simp only [Act.put, List.setIfInBounds_toArray, List.set_cons_zero, List.set_cons_succ]))
            (refine heldTake (i := 1) (oi := { dst := some 101, op := Op.move (Operand.tmp 12), type := 3, pos := "law.go:97", after := #[], guard := none }) (v := ?_) rfl (by kernel_rfl) (by kernel_rfl) (by kernel_rfl) (by assumption) ?_ ?_; rotate_left; focus (refine .inl ⟨by kernel_rfl, ?_⟩; intro w hSw; (try dsimp only at hSw); go_simp; (try with_reducible rfl)); (try simp only [Act.put, List.setIfInBounds_toArray, List.set_cons_zero, List.set_cons_succ]))
            (refine heldTake (i := 2) (oi := { dst := some 102, op := Op.indexAddr 54 (Operand.tmp 100) (Operand.tmp 101), type := 0, pos := "law.go:97", after := #[{ on := 0, ground := Ground.data }, { on := 1, ground := Ground.data }], guard := none }) (v := ?_) rfl (by kernel_rfl) (by kernel_rfl) (by kernel_rfl) (by assumption) ?_ ?_; rotate_left; focus (refine .inl ⟨by kernel_rfl, ?_⟩; intro w hSw; (try dsimp only at hSw); go_simp; (try with_reducible rfl)); (try simp only [Act.put, List.setIfInBounds_toArray, List.set_cons_zero, List.set_cons_succ]))
            (refine heldTake (i := 3) (oi := { dst := some 103, op := Op.load 62 (Operand.tmp 102), type := 62, pos := "law.go:97", after := #[{ on := 2, ground := Ground.data }], guard := none }) (v := ?_) rfl (by kernel_rfl) (by kernel_rfl) (by kernel_rfl) (by assumption) ?_ ?_; rotate_left; focus (refine .inl ⟨by kernel_rfl, ?_⟩; intro w hSw; (try dsimp only at hSw); go_simp; (try with_reducible rfl)); (try simp only [Act.put, List.setIfInBounds_toArray, List.set_cons_zero, List.set_cons_succ]))
            (refine heldTake (i := 4) (oi := { dst := some 104, op := Op.move (Operand.tmp 0), type := 54, pos := "law.go:97", after := #[], guard := none }) (v := ?_) rfl (by kernel_rfl) (by kernel_rfl) (by kernel_rfl) (by assumption) ?_ ?_; rotate_left; focus (refine .inl ⟨by kernel_rfl, ?_⟩; intro w hSw; (try dsimp only at hSw); go_simp; (try with_reducible rfl)); (try simp only [Act.put, List.setIfInBounds_toArray, List.set_cons_zero, List.set_cons_succ]))
            (refine heldTake (i := 5) (oi := { dst := some 105, op := Op.move (Operand.tmp 12), type := 3, pos := "law.go:97", after := #[], guard := none }) (v := ?_) rfl (by kernel_rfl) (by kernel_rfl) (by kernel_rfl) (by assumption) ?_ ?_; rotate_left; focus (refine .inl ⟨by kernel_rfl, ?_⟩; intro w hSw; (try dsimp only at hSw); go_simp; (try with_reducible rfl)); (try simp only [Act.put, List.setIfInBounds_toArray, List.set_cons_zero, List.set_cons_succ]))
            (refine heldTake (i := 6) (oi := { dst := some 106, op := Op.indexAddr 54 (Operand.tmp 104) (Operand.tmp 105), type := 0, pos := "law.go:97", after := #[{ on := 4, ground := Ground.data }, { on := 5, ground := Ground.data }], guard := none }) (v := ?_) rfl (by kernel_rfl) (by kernel_rfl) (by kernel_rfl) (by assumption) ?_ ?_; rotate_left; focus (refine .inl ⟨by kernel_rfl, ?_⟩; intro w hSw; (try dsimp only at hSw); go_simp; (try with_reducible rfl)); (try simp only [Act.put, List.setIfInBounds_toArray, List.set_cons_zero, List.set_cons_succ]))
            (refine heldTake (i := 7) (oi := { dst := some 107, op := Op.load 62 (Operand.tmp 106), type := 62, pos := "law.go:97", after := #[{ on := 6, ground := Ground.data }], guard := none }) (v := ?_) rfl (by kernel_rfl) (by kernel_rfl) (by kernel_rfl) (by assumption) ?_ ?_; rotate_left; focus (refine .inl ⟨by kernel_rfl, ?_⟩; intro w hSw; (try dsimp only at hSw); go_simp; (try with_reducible rfl)); (try simp only [Act.put, List.setIfInBounds_toArray, List.set_cons_zero, List.set_cons_succ]))
            refine wpAnyH_ready (rs := [8]) (by kernel_rfl) (by simp) ?_
            refine AllReadyH.cons (o := { dst := some 108, op := Op.call { callee := Callee.value (Operand.func 25), args := #[Operand.tmp 103, Operand.tmp 107], argTypes := #[62, 62] }, type := 4, pos := "law.go:97", after := #[{ on := 3, ground := Ground.data }, { on := 7, ground := Ground.data }], guard := none }) rfl (fun K hK => ?_) AllReadyH.nil
            go_simp
            (go_at_call 25; (with_reducible refine (HSg.out _ hHeld).mono ?_); rintro e w11 ⟨rfl, hb⟩; have hk11 := HON.out _ _ hHeld hb; clear hb)
            refine hK.out _ _ hk11 (fun hHeld8 => ?_)
            clear hK K hHeld
            (try simp only [Act.put, List.setIfInBounds_toArray, List.set_cons_zero, List.set_cons_succ])
            (refine heldTake (i := 9) (oi := { dst := some 109, op := Op.unOp UnOp.not 4 (Operand.tmp 108), type := 4, pos := "law.go:97", after := #[{ on := 8, ground := Ground.data }], guard := none }) (v := ?_) rfl (by kernel_rfl) (by kernel_rfl) (by kernel_rfl) (by assumption) ?_ ?_; rotate_left; focus (refine .inl ⟨by kernel_rfl, ?_⟩; intro w hSw; (try dsimp only at hSw); go_simp; (try with_reducible rfl)); (try simp only [Act.put, List.setIfInBounds_toArray, List.set_cons_zero, List.set_cons_succ]))
            refine wpAnyH_done (by kernel_rfl) ?_ _
            refine NoPanic.normal ?_
            have hLast := hHeld8
            clear hHeld8
            obtain ⟨⟨hb3, hi3, hj3⟩, _⟩ := hLast
            have HB3 := Lib.hid hb3
            have HI3 := Lib.hid hi3
            have HJ3 := Lib.hid hj3
            clear hb3 hi3 hj3
            go_wp2
            go_roundw
            case rel => exact ⟨j + 1, by omega, by go_num, HB3.out, HI3.out, HJ3.out⟩
            case measure => simp [intOf]; omega
          · obtain rfl : j = n2 := by omega
            have HB3 := Lib.hid hb
            clear hb hi hjj
            go_wp2
            go_ret
            exact ⟨rfl, HB3.out⟩
      · rw [if_neg e0] at hpa
        have d0 : (errEl l != 0) = true := zb_of (by simpa using e0)
        obtain ⟨z, hz⟩ : ∃ z, z = errEl l := ⟨_, rfl⟩
        rw [← hz] at hpa d0 ⊢
        have HPA := Lib.hid hpa
        clear hpa htb hb e0 hz hlt
        go_wp2_with (go_at_call 29; go_must ((with_reducible refine HPA.out.mono ?_); intro e w3 hq; obtain ⟨v, rfl, hr, hb⟩ := hq; obtain ⟨Ab, cb, rfl, _⟩ := hr.pc; have H3 := Lib.hid (HB.out.trans (hb.mono HB.out.size)); clear hb hr))
        go_ret
        exact ⟨rfl, H3.out⟩
end Go.Proofs.YtebgmfjgapmpfaaGreatDoor

/- An element segment by value and a slice of segments, opened. -/
namespace Go.Proofs.YtebgmfjgapmpfaaGreatDoor
open Go.ChangeShapes Go.WideShapes Go.ChangeAt Go.RowKit Go.Joins Go.Deep
set_option linter.unusedVariables false
set_option maxRecDepth 100000

theorem cellsElem : Tryz.prog.cellsOf 62 = 5 := by kernel_rfl
/-- Its numbers are what their kinds hold. -/
def OkE (x : SlotEl) : Prop := x.1.i.Ok ∧ (x.1.i.l.length : Int) ≤ 9223372036854775807 ∧ ∀ c ∈ x.1.fs, 0 ≤ c ∧ c ≤ 4294967295
section
variable {H : Type} {enc : TypeId × Value → H} {W : World} {sp : Nat → Bool}
/-- The four cells of an instruction. -/
theorem open_four {n : Nat} {c0 c1 c2 c3 : Value} {x : DataW H × List MemPlace} (h : DataW.trod enc Tryz.prog W 0 sp true n 44 [c0, c1, c2, c3] = some x) :
    ∃ (i : I) (B : Option Addr) (c : Nat), c0 = .int .u8 i.op.toNat ∧ c1 = .int .u64 i.a ∧ c2 = .int .u64 i.b ∧ c3 = .slice B i.l.length c ∧ i.Ok ∧ (i.l.length : Int) ≤ 9223372036854775807 := by
  obtain ⟨ys, m, _, hy, hlen, hyl, hf⟩ := DataW.trod_struct Tryz.underlying44 h
  match ys, hyl with
  | [y0, y1, y2, y3], _ =>
    have e1 : Tryz.prog.cellsOf 5 = 1 := by kernel_rfl
    have e2 : Tryz.prog.cellsOf 41 = 1 := by kernel_rfl
    have e3 : Tryz.prog.cellsOf 42 = 1 := by kernel_rfl
    have h0 : DataW.trod enc Tryz.prog W 0 sp true m 5 (([c0, c1, c2, c3].drop 0).take (Tryz.prog.cellsOf 5)) = some y0 := hf 0 _ rfl
    have h1 : DataW.trod enc Tryz.prog W 0 sp true m 41 (([c0, c1, c2, c3].drop 1).take (Tryz.prog.cellsOf 41)) = some y1 := hf 1 _ rfl
    have h2 : DataW.trod enc Tryz.prog W 0 sp true m 41 (([c0, c1, c2, c3].drop 2).take (Tryz.prog.cellsOf 41)) = some y2 := hf 2 _ rfl
    have h3 : DataW.trod enc Tryz.prog W 0 sp true m 42 (([c0, c1, c2, c3].drop 3).take (Tryz.prog.cellsOf 42)) = some y3 := hf 3 _ rfl
    rw [e1] at h0
    rw [e2] at h1 h2
    rw [e3] at h3
    obtain ⟨i, B, c, rfl, rfl, rfl, rfl, ho, _, hn⟩ := open_parts h0 h1 h2 h3
    exact ⟨i, B, c, rfl, rfl, rfl, rfl, ho, hn⟩
/-- Five cells of a segment. -/
theorem open_five {n : Nat} {cs : List Value} {x : DataW H × List MemPlace} (h : DataW.trod enc Tryz.prog W 0 sp true n 62 cs = some x) (hc : cs.length = 5) : ∃ s : SlotEl, cs = qL s ∧ OkE s ∧ LiesL W s.2.2.1 s.1.fs := by
  obtain ⟨ys, m, _, hy, hlen, hyl, hf⟩ := DataW.trod_struct Tryz.underlying62 h
  match cs, hc with
  | [c0, c1, c2, c3, c4], _ =>
    match ys, hyl with
    | [y0, y1], _ =>
      have e1 : Tryz.prog.cellsOf 44 = 4 := by kernel_rfl
      have e2 : Tryz.prog.cellsOf 42 = 1 := by kernel_rfl
      have h0 : DataW.trod enc Tryz.prog W 0 sp true m 44 (([c0, c1, c2, c3, c4].drop 0).take (Tryz.prog.cellsOf 44)) = some y0 := hf 0 _ rfl
      have h1 : DataW.trod enc Tryz.prog W 0 sp true m 42 (([c0, c1, c2, c3, c4].drop 4).take (Tryz.prog.cellsOf 42)) = some y1 := hf 1 _ rfl
      rw [e1] at h0
      rw [e2] at h1
      obtain ⟨i, B, c, r0, r1, r2, r3, ho, hn⟩ := open_four h0
      obtain ⟨F, f, fs, r4, hl, hb, _⟩ := open_labels h1
      exact ⟨(⟨i, fs⟩, (B, c), (F, f)), by unfold qL qC elC; rw [r0, r1, r2, r3, r4], ⟨ho, hn, hb⟩, hl⟩
theorem open_eseg {b0 : Nat} {r : Reach} {v : Value} {d : DataW H} {p : List MemPlace} (hv : Value.okWide Tryz.prog W r b0 62 v) (h : DataW.Trod enc Tryz.prog W 0 sp true 62 v d p) :
    ∃ x : SlotEl, v = qV x ∧ OkE x ∧ LiesL W x.2.2.1 x.1.fs := by
  obtain ⟨cs, rfl, hsz⟩ := okWide_struct Tryz.underlying62 hv
  rw [cellsElem] at hsz
  obtain ⟨fuel, hf⟩ := h
  obtain ⟨i, hi, h1, h2⟩ := open_five (cs := cs.toList) (by simpa [Value.cells] using hf) (by simpa using hsz)
  exact ⟨i, by show Value.agg cs = .agg (qC i); congr 1; apply Array.toList_inj.1; exact hi, h1, h2⟩
theorem open_elist {A : Option Addr} {len cap : Nat} {d : DataW H} {p : List MemPlace} (h : DataW.Trod enc Tryz.prog W 0 sp true 54 (.slice A len cap) d p) :
    ∃ l : List SlotEl, l.length = len ∧ Es W A l ∧ (l.length : Int) ≤ 9223372036854775807 ∧ ∀ x ∈ l, OkE x := by
  obtain ⟨fuel, hf⟩ := h
  rcases open_slice Tryz.underlying54 hf with ⟨hcs, _⟩ | ⟨a, ln, cp, m, n, D, Pl, hcs, hb, hl, hm, hmm, hx, hi⟩
  · simp [Value.cells] at hcs
    obtain ⟨rfl, rfl, rfl⟩ := hcs
    exact ⟨[], rfl, (fun j i hi => by cases hi), by simp, fun x hx => by cases hx⟩
  · simp [Value.cells] at hcs
    obtain ⟨rfl, rfl, rfl⟩ := hcs
    have hlm : len ≤ m := by rw [hmm]; split <;> omega
    have each : ∀ j, j < len → ∃ i : SlotEl, ((∀ u, u < 5 → W.cell? ((a.add (j * 5)).add u) = (qL i)[u]?) ∧ LiesL W i.2.2.1 i.1.fs) ∧ OkE i := by
      intro j hj
      obtain ⟨cs', hc, ht'⟩ := hi j (by omega)
      rw [cellsElem] at hc
      obtain ⟨_, hcl, hat⟩ := World.cells?_some hc
      obtain ⟨i, rfl, hw, hl⟩ := open_five ht' hcl
      exact ⟨i, ⟨fun u hu => hat u (by omega), hl⟩, hw⟩
    have pick : ∀ k, k ≤ len → ∃ l : List SlotEl, l.length = k ∧ (∀ (j : Nat) (i : SlotEl), l[j]? = some i → (∀ u, u < 5 → W.cell? ((a.add (j * 5)).add u) = (qL i)[u]?) ∧ LiesL W i.2.2.1 i.1.fs) ∧ ∀ x ∈ l, OkE x := by
      intro k
      induction k with
      | zero => intro _; exact ⟨[], rfl, (fun j i hi => by cases hi), fun x hx => by cases hx⟩
      | succ k ih =>
        intro hk
        obtain ⟨l, hl1, hl2, hl3⟩ := ih (by omega)
        obtain ⟨i, hq, hw⟩ := each k (by omega)
        refine ⟨l ++ [i], by simp [hl1], fun j i' hi' => ?_, fun x hx => (List.mem_append.1 hx).elim (hl3 x) (fun h => by rw [List.mem_singleton] at h; subst h; exact hw)⟩
        rcases Nat.lt_or_ge j k with g | g
        · rw [List.getElem?_append_left (by omega)] at hi'
          exact hl2 j i' hi'
        · have hj : j < (l ++ [i]).length := (List.getElem?_eq_some_iff.1 hi').1
          rw [List.length_append, List.length_singleton] at hj
          obtain rfl : j = k := by omega
          rw [List.getElem?_append_right (by omega), hl1, Nat.sub_self] at hi'
          injection hi' with hi'
          subst hi'
          exact hq
    obtain ⟨l, hl1, hl2, hl3⟩ := pick len (Nat.le_refl _)
    unfold maxLen at hm
    refine ⟨l, hl1, fun j i hij => ?_, by omega, hl3⟩
    obtain ⟨q, hfu⟩ := hl2 j i hij
    have hj0 := (List.getElem?_eq_some_iff.1 hij).1
    have q00 : W.cell? ((a.add (0 * 5)).add 0) = some (.int .u8 (l[0]'(by omega)).1.i.op.toNat) := (hl2 0 _ (List.getElem?_eq_getElem (by omega : 0 < l.length))).1 0 (by omega)
    obtain ⟨b, off, spot⟩ := a
    have hsp : spot = none := by simpa [Addr.add] using World.cell?_spot q00
    subst hsp
    have q2 : ∀ u, u < 5 → W.cell? ⟨b, off + j * 5 + u, none⟩ = (qL i)[u]? := fun u hu => by
      have := q u hu
      rw [Go.WideShapes.add_plain, Go.WideShapes.add_plain] at this
      exact this
    have q0 : W.cell? ⟨b, off + j * 5 + 0, none⟩ = some (.int .u8 i.1.i.op.toNat) := q2 0 (by omega)
    exact ⟨⟨b, off, rfl, block_lt_of_cell q0, q2⟩, hfu⟩
end
end Go.Proofs.YtebgmfjgapmpfaaGreatDoor

/- How far a body has come: nest's add, turn, close. -/
namespace Go.Proofs.YtebgmfjgapmpfaaGreatDoor
open Go.RowKit
set_option linter.unusedVariables false
set_option maxRecDepth 100000

/-- Are the opcodes the rest of a body in which these blocks are open? -/
def shapeGo : List UInt8 → List UInt8 → Bool
  | st, [] => false
  | st, op :: r =>
    if immR op.toNat = 1 then shapeGo (st ++ [op]) r
    else if op = 5 then (if st.getLast? = some 4 then shapeGo (st.dropLast ++ [5]) r else false)
    else if op = 11 then (if st = [] then r.isEmpty else shapeGo st.dropLast r)
    else shapeGo st r
/-- One more: the open blocks, and is it the end of all? -/
def addZ (st : List UInt8) (op : UInt8) : Option (List UInt8 × Bool) :=
  if immR op.toNat = 1 then some (st ++ [op], false)
  else if op = 5 then (if st.getLast? = some 4 then some (st.dropLast ++ [5], false) else none)
  else if op = 11 then (if st = [] then some (st, true) else some (st.dropLast, false))
  else some (st, false)
theorem shape_add (st : List UInt8) (op : UInt8) (r : List UInt8) : shapeGo st (op :: r) = match addZ st op with
    | none => false
    | some (st', false) => shapeGo st' r
    | some (st', true) => r.isEmpty := by
  unfold addZ
  show (if immR op.toNat = 1 then _ else _) = _
  by_cases h1 : immR op.toNat = 1
  · rw [if_pos h1, if_pos h1]
  · rw [if_neg h1, if_neg h1]
    by_cases h2 : op = 5
    · rw [if_pos h2, if_pos h2]
      by_cases h3 : st.getLast? = some 4
      · rw [if_pos h3, if_pos h3]
      · rw [if_neg h3, if_neg h3]
    · rw [if_neg h2, if_neg h2]
      by_cases h3 : op = 11
      · rw [if_pos h3, if_pos h3]
        by_cases h4 : st = []
        · rw [if_pos h4, if_pos h4]
        · rw [if_neg h4, if_neg h4]
      · rw [if_neg h3, if_neg h3]
theorem Row.cut {w : World} {base : Nat} {A : Option Addr} {n c : Nat} {xs : List UInt8} (h : Row w base (.slice A n c) xs) (hne : xs ≠ []) : ∃ g, A = some ⟨g, 0, none⟩ ∧ n = xs.length ∧ base ≤ g ∧ g < w.heap.size ∧ Row w base (.slice A (n - 1) c) xs.dropLast ∧ xs.length ≤ c ∧ c ≤ maxLen := by
  obtain ⟨h1, h2⟩ := h
  rcases h2 with ⟨e, e2⟩ | ⟨g, cap, cur, e, hb, hg, hc, hm, hs, ht⟩
  · exact absurd (List.eq_nil_of_length_eq_zero e2) hne
  · injection e with e1 e2 e3
    subst e1; subst e2; subst e3
    have hl : 0 < xs.length := List.length_pos_iff.2 hne
    refine ⟨g, rfl, rfl, hb, (Array.getElem?_eq_some_iff.1 hg).1, ⟨by rw [cells_length, nums_length]; omega, .inr ⟨g, c, cur, by rw [List.length_dropLast], hb, hg, by rw [List.length_dropLast]; omega, hm, hs, ?_⟩⟩, hc, hm⟩
    rw [List.length_dropLast]
    have : cur.toList.take ((xs.length - 1) * 1) = (cur.toList.take (xs.length * 1)).take (xs.length - 1) := by rw [List.take_take]; congr 1; omega
    rw [this, ht]
    unfold cells nums
    rw [← List.map_take, ← List.map_take, List.dropLast_eq_take]
theorem Row.last {w : World} {base : Nat} {g c : Nat} {xs : List UInt8} (h : Row w base (.slice (some ⟨g, 0, none⟩) xs.length c) xs) {x : UInt8} (hx : xs.getLast? = some x) : w.cell? ⟨g, xs.length - 1, none⟩ = some (.int .u8 x.toNat) ∧ w.frozen? ⟨g, xs.length - 1, none⟩ = false ∧
    ∀ y : UInt8, Row (w.setCell ⟨g, xs.length - 1, none⟩ (.int .u8 y.toNat)) base (.slice (some ⟨g, 0, none⟩) xs.length c) (xs.dropLast ++ [y]) ∧ w.grownBy (w.setCell ⟨g, xs.length - 1, none⟩ (.int .u8 y.toNat)) (some g) := by
  have hne : xs ≠ [] := fun e => by rw [e] at hx; cases hx
  have hl : 0 < xs.length := List.length_pos_iff.2 hne
  have hxi : xs[xs.length - 1]? = some x := by rw [← hx, List.getLast?_eq_getElem?]
  obtain ⟨A, c', e, hli, _⟩ := h.liesN
  injection e with e1 e2 e3
  subst e1
  obtain ⟨b, off, e4, _, hc⟩ := hli (xs.length - 1) (.int .u8 x.toNat) (by unfold cells nums; rw [List.map_map, List.getElem?_map, hxi]; rfl)
  injection e4 with e4
  injection e4 with e5 e6
  subst e5; subst e6
  rw [Nat.zero_add] at hc
  have hfr : w.frozen? ⟨g, xs.length - 1, none⟩ = false := by
    rcases h.2 with ⟨e, _⟩ | ⟨g', cap, cur, e, hb, hg, _⟩
    · cases e
    · injection e with e1 _ _
      injection e1 with e1
      injection e1 with e1
      subst e1
      exact frozen_of_row w _ _ cur _ hg
  refine ⟨hc, hfr, fun y => ?_⟩
  obtain ⟨h1, h2⟩ := World.ownsRow.stored h (xs.length - 1) (.int .u8 y.toNat)
  refine ⟨?_, h2⟩
  have e : (cells (nums xs)).set (xs.length - 1) (.int .u8 y.toNat) = cells (nums (xs.dropLast ++ [y])) := by
    have hd : xs = xs.dropLast ++ [x] := by
      obtain ⟨ys, rfl⟩ := List.getLast?_eq_some_iff.1 hx
      simp
    conv => lhs; rw [hd]
    unfold cells nums
    rw [List.map_append, List.map_append, List.map_append, List.map_append]
    rw [List.set_append_right _ _ (by simp)]
    simp
  unfold Row
  rw [← e]
  have hl2 : (xs.dropLast ++ [y]).length = xs.length := by simp; omega
  rw [hl2]
  exact h1
/-- What add leaves: nest's two cells, the row of open blocks. -/
def Added (nb base : Nat) (v : Value) (st : List UInt8) (en : Bool) (W : World) (e : Ending) (W' : World) : Prop :=
  e = .returned (.bool true) ∧ ∃ v' Wm, Whole W' nb 141 #[v', .bool en] ∧ Row W' base v' st ∧ W.grownBy Wm v.ownBlock ∧ Wm.grownBy W' (some nb)
theorem Row.apart {w : World} {base n nb : Nat} {a : Addr} {c : Nat} {xs : List UInt8} {t : TypeId} {cs : Array Value} (h : Row w base (.slice (some a) n c) xs) (hw : Whole w nb t cs) (hne : t ≠ 5) : nb ≠ a.block := by
  rcases h.2 with ⟨e, _⟩ | ⟨g, cap, cur, e, hb, hg, _⟩
  · cases e
  · injection e with e1 _ _
    injection e1 with e1
    subst e1
    exact hw.apart (show Whole w g 5 cur from hg) hne
section
variable {W : World} {nb base : Nat} {v : Value} {st : List UInt8}
theorem turn_no (hn : Whole W nb 141 #[v, .bool false]) (hr : Row W base v st) (hs : st.length ≤ 100000) (hno : st.getLast? ≠ some 4) :
    Calls Tryz.prog 145 #[.pointer (some ⟨nb, 0, none⟩)] W fun e W' => e = .returned (.bool false) ∧ W = W' := by
  obtain ⟨A, c, rfl, _⟩ := hr.liesN
  have c0 := hn.cell 0
  simp only [List.getElem?_toArray, List.getElem?_cons_zero] at c0
  by_cases h0 : st = []
  · subst h0
    clear hn hr
    go_enter Tryz.func145, Tryz.ntmps145
    go_wp2
    go_ret
    exact ⟨rfl, rfl⟩
  · obtain ⟨g, rfl, _, hbg, hglt, hcut, hc1, hc2⟩ := hr.cut h0
    obtain ⟨x, hx⟩ : ∃ x, st.getLast? = some x := by cases h : st.getLast? with
      | none => exact absurd (List.getLast?_eq_none_iff.1 h) h0
      | some x => exact ⟨x, rfl⟩
    obtain ⟨hcell, hfr, hset⟩ := hr.last hx
    have h4 : x ≠ 4 := fun e => hno (by rw [hx, e])
    have d4 : ((x.toNat : Int) != 4) = true := by
      have : x.toNat ≠ (4 : UInt8).toNat := fun e => h4 (UInt8.toNat_inj.1 e)
      have e4 : (4 : UInt8).toNat = 4 := rfl
      rw [e4] at this
      simp
      omega
    obtain ⟨n, hnn⟩ : ∃ n, st.length = n + 1 := ⟨st.length - 1, by have := List.length_pos_iff.2 h0; omega⟩
    rw [hnn] at c0 hcell hfr hs hc1
    rw [Nat.add_sub_cancel] at hcell hfr
    have e1 : ((n + 1 : Nat) : Int) - 1 = n := by omega
    clear hset hn hr hx hcut hnn hno
    unfold maxLen at hc2
    go_enter Tryz.func145, Tryz.ntmps145
    go_wp2
    go_ret
    exact ⟨rfl, rfl⟩
theorem turn_yes (hn : Whole W nb 141 #[v, .bool false]) (hr : Row W base v st) (hs : st.length ≤ 100000) (hx : st.getLast? = some 4) :
    Calls Tryz.prog 145 #[.pointer (some ⟨nb, 0, none⟩)] W (Added nb base v (st.dropLast ++ [5]) false W) := by
  obtain ⟨A, c, rfl, _⟩ := hr.liesN
  have c0 := hn.cell 0
  simp only [List.getElem?_toArray, List.getElem?_cons_zero] at c0
  have h0 : st ≠ [] := fun e => by rw [e] at hx; cases hx
  obtain ⟨g, rfl, _, hbg, hglt, hcut, hc1, hc2⟩ := hr.cut h0
  obtain ⟨hcell, hfr, hset⟩ := hr.last hx
  have HAP := Lib.hid (hr.apart hn (by decide))
  obtain ⟨n, hnn⟩ : ∃ n, st.length = n + 1 := ⟨st.length - 1, by have := List.length_pos_iff.2 h0; omega⟩
  rw [hnn] at c0 hcell hfr hs hc1 hset ⊢
  rw [Nat.add_sub_cancel] at hcell hfr hset
  have e1 : ((n + 1 : Nat) : Int) - 1 = n := by omega
  have e4 : ((4 : UInt8).toNat : Int) = 4 := rfl
  rw [e4] at hcell
  have HS := Lib.hid (hset 5)
  have HN := Lib.hid hn
  rw [hnn] at HN
  clear hset hn hr hx hcut hnn h0
  unfold maxLen at hc2
  go_enter Tryz.func145, Tryz.ntmps145
  go_wp2
  go_ret
  exact ⟨rfl, _, _, HN.out.far HAP.out _, HS.out.1, HS.out.2, gb_refl _ _⟩
end
end Go.Proofs.YtebgmfjgapmpfaaGreatDoor

/- nest's close and add. -/
namespace Go.Proofs.YtebgmfjgapmpfaaGreatDoor
open Go.RowKit
set_option linter.unusedVariables false
set_option maxRecDepth 100000

/-- What a step leaves: nest's two cells, the row of open blocks. -/
def Moved (nb base : Nat) (v : Value) (st : List UInt8) (en : Bool) (W W' : World) : Prop :=
  ∃ v' Wm, Whole W' nb 141 #[v', .bool en] ∧ Row W' base v' st ∧ W.grownBy Wm v.ownBlock ∧ Wm.grownBy W' (some nb)
/-- append of a new block of bytes: what is old stays, but for the row. -/
theorem row_newG {w : World} {ops : Array Oper} {rest : List Oper} {o : Oper} {a : Act} {Q : Exit → Act → World → Prop} (hgd : o.guard = none) (s x : Operand)
    (ho : o.op = .call { callee := .builtin .append, args := #[s, x], argTypes := #[22, 22] })
    (B : Nat) (v : Value) (xs : List UInt8) (hs : a.eval s = v) (hr : Row w B v xs)
    (g m : Nat) (news : List UInt8) (hx : a.eval x = .slice (some ⟨g, 0, none⟩) m m) (hl : news.length = m) (hg : w.heap[g]? = some (.cells (cells (nums news)).toArray 5 (0, 0)))
    (hm : 0 < m) (hb : xs.length + news.length ≤ 1000000) (hB : B ≤ w.heap.size)
    (h : ∀ v' w', Row w' B v' (xs ++ news) → w.grownBy w' v.ownBlock → wpList Tryz.prog ops Q rest (a.put o.dst v') w') : wpList Tryz.prog ops Q (o :: rest) a w :=
  wpList_app hgd s x ho B v _ (nums xs) hs hr g m (nums news) hx (by rw [nums_length]; exact hl) hg hm (by omega) hB fun v' w' h2 h3 =>
    h v' w' (by unfold Row; rw [nums_append, List.length_append, hl]; exact h2) h3
section
variable {W : World} {nb base : Nat} {v : Value} {st : List UInt8}
theorem Moved.after {W1 W' : World} {en : Bool} (h : Moved nb base v st en W1 W') (hb : Below W.heap.size W W1) : Moved nb base v st en W W' := by
  obtain ⟨v', Wm, h1, h2, h3, h4⟩ := h
  exact ⟨v', Wm, h1, h2, gb_trans (gb_of_below _ hb) h3, h4⟩
theorem close_ok (hn : Whole W nb 141 #[v, .bool false]) (hr : Row W base v st) (hs : st.length ≤ 100000) :
    Calls Tryz.prog 146 #[.pointer (some ⟨nb, 0, none⟩)] W fun e W' => e = .returned (.tuple #[]) ∧ Moved nb base v (if st = [] then st else st.dropLast) (if st = [] then true else false) W W' := by
  obtain ⟨A, c, rfl, _⟩ := hr.liesN
  have c0 := hn.cell 0
  have c1 := hn.cell 1
  have f0 := hn.frozen 0
  have f1 := hn.frozen 1
  simp only [List.getElem?_toArray, List.getElem?_cons_zero, List.getElem?_cons_succ] at c0 c1
  by_cases h0 : st = []
  · subst h0
    have hp := hn.put 1 (.bool true)
    have HP := Lib.hid hp
    have HR := Lib.hid (hr.later (Below.refl _ _))
    have HAP := Lib.hid (fun (a : Addr) (e : A = some a) => (by subst e; exact hr.apart hn (by decide) : nb ≠ a.block))
    have hgb : W.grownBy (W.setCell ⟨nb, 1, none⟩ (.bool true)) (some nb) := gb_put (p := ⟨nb, 1, none⟩) (gb_refl W _) (.inl rfl) _
    have HG := Lib.hid hgb
    clear hn hr hp hgb
    go_enter Tryz.func146, Tryz.ntmps146
    go_wp2
    refine bodyPost_ret (v := .tuple #[]) (by simp [results, Tryz.results146]) rfl ?_
    refine ⟨rfl, _, W, HP.out, ?_, gb_refl _ _, HG.out⟩
    exact World.ownsRow.kept HR.out HG.out (by
      cases A with
      | none => exact .inl rfl
      | some a => exact .inr (by have := HAP.out a rfl; simp only [Value.ownBlock, ne_eq, Option.some.injEq]; exact fun e => this e.symm))
  · obtain ⟨g, rfl, _, hbg, hglt, hcut, hc1, hc2⟩ := hr.cut h0
    obtain ⟨n, hnn⟩ : ∃ n, st.length = n + 1 := ⟨st.length - 1, by have := List.length_pos_iff.2 h0; omega⟩
    have HAP := Lib.hid (hr.apart hn (by decide))
    have HH := Lib.hid h0
    rw [hnn] at c0 hs hc1 hcut hn
    rw [Nat.add_sub_cancel] at hcut
    have e1 : ((n + 1 : Nat) : Int) - 1 = n := by omega
    have HP := Lib.hid (hn.put 0 (.slice (some ⟨g, 0, none⟩) n c))
    have HC := Lib.hid hcut
    have hgb : W.grownBy (W.setCell ⟨nb, 0, none⟩ (.slice (some ⟨g, 0, none⟩) n c)) (some nb) := gb_put (p := ⟨nb, 0, none⟩) (gb_refl W _) (.inl rfl) _
    have HG := Lib.hid hgb
    rw [hnn]
    clear hn hr hcut hnn h0 hgb
    unfold maxLen at hc2
    have hc3 : ¬ (c : Int) < n := by omega
    go_enter Tryz.func146, Tryz.ntmps146
    go_wp2
    go_end0
    refine ⟨rfl, ?_⟩
    refine ⟨_, W, HP.out, ?_, gb_refl _ _, HG.out⟩
    exact World.ownsRow.kept HC.out HG.out (.inr (by simp only [Value.ownBlock, ne_eq, Option.some.injEq]; exact fun e => HAP.out e.symm))
theorem add_ended (hn : Whole W nb 141 #[v, .bool true]) (op : UInt8) : Calls Tryz.prog 111 #[.pointer (some ⟨nb, 0, none⟩), .int .u8 op.toNat] W fun e W' => e = .returned (.bool false) ∧ W = W' := by
  have c1 := hn.cell 1
  simp only [List.getElem?_toArray, List.getElem?_cons_zero, List.getElem?_cons_succ] at c1
  clear hn
  go_enter Tryz.func111, Tryz.ntmps111
  go_wp2
  go_ret
  exact ⟨rfl, rfl⟩
theorem addZ_11 {st : List UInt8} : addZ st 11 = some (if st = [] then st else st.dropLast, if st = [] then true else false) := by
  unfold addZ
  rw [if_neg (by decide +kernel), if_neg (by decide), if_pos rfl]
  by_cases h : st = []
  · rw [if_pos h, if_pos h, if_pos h]
  · rw [if_neg h, if_neg h, if_neg h]
set_option maxHeartbeats 1000000 in
theorem add_ok {op : UInt8} {st' : List UInt8} {en : Bool} (hT : Tabs W) (hn : Whole W nb 141 #[v, .bool false]) (hr : Row W base v st) (hb : base ≤ W.heap.size) (hs : st.length ≤ 100000) (ha : addZ st op = some (st', en)) :
    Calls Tryz.prog 111 #[.pointer (some ⟨nb, 0, none⟩), .int .u8 op.toNat] W fun e W' => e = .returned (.bool true) ∧ Moved nb base v st' en W W' := by
  have HO := Lib.hid (opens_any op.toNat W hT (by have := op.toNat_lt; omega))
  have c1 := hn.cell 1
  simp only [List.getElem?_toArray, List.getElem?_cons_zero, List.getElem?_cons_succ] at c1
  have HN := Lib.hid hn
  have HR := Lib.hid hr
  clear hn hr
  by_cases h1 : immR op.toNat = 1
  · have hd : (immR op.toNat == 1) = true := by simpa using h1
    rw [hd] at HO
    unfold addZ at ha
    rw [if_pos h1] at ha
    injection ha with ha
    injection ha with ha1 ha2
    subst ha2
    have HST := Lib.hid ha1
    clear ha1
    have HAP := Lib.hid (fun (w1 : World) (h1 : Whole w1 nb 141 #[v, .bool false]) (h2 : Row w1 base v st) => (by
      cases v with
      | slice A n c => cases A with
        | none => simp [Value.ownBlock]
        | some a => have := h2.apart h1 (by decide); simp only [Value.ownBlock, ne_eq, Option.some.injEq]; exact this
      | _ => simp [Value.ownBlock] : some nb ≠ v.ownBlock))
    clear h1 hd
    go_enter Tryz.func111, Tryz.ntmps111
    go_wp2_with (first
      | (at_builtin; (refine row_newG rfl _ _ rfl base v st rfl (HR1.out.alloc _) w1.heap.size 1 [op] rfl rfl (heap_alloc_new w1 _) (by omega) (by simp; omega) (by have := HB1.out.size; simp; omega) ?_; intro v3 w3 hr3 hg3; rw [HST.out] at hr3; have hn3 : Whole w3 nb 141 #[v, .bool false] := (HN1.out.alloc _).grown hg3 (HAP.out _ HN1.out HR1.out); have k3 := hn3.cell 0; have k4 := hn3.frozen 0; simp only [List.getElem?_toArray, List.getElem?_cons_zero] at k3; obtain ⟨A3, c3, rfl, _⟩ := hr3.liesN; have HR3 := Lib.hid hr3; have HG3 := Lib.hid hg3; have HN3 := Lib.hid hn3; clear hr3 hg3 hn3))
      | (go_at_call 144; go_must ((with_reducible refine HO.out.mono ?_); rintro e w1 ⟨rfl, hb1⟩; have HB1 := Lib.hid hb1; have HR1 := Lib.hid (HR.out.later hb1); have HN1 := Lib.hid (HN.out.below hb1); have k0 := HN1.out.cell 0; have g0 := HN1.out.frozen 0; simp only [List.getElem?_toArray, List.getElem?_cons_zero] at k0; clear hb1)))
    go_ret
    have hgb : w3.grownBy (w3.setCell ⟨nb, 0, none⟩ (.slice A3 st'.length c3)) (some nb) := gb_put (p := ⟨nb, 0, none⟩) (gb_refl w3 _) (.inl rfl) _
    refine ⟨rfl, _, w3, HN3.out.put 0 _, ?_, gb_trans (gb_alloc (gb_of_below _ HB1.out) _) HG3.out, hgb⟩
    exact World.ownsRow.kept HR3.out hgb (by
      cases A3 with
      | none => exact .inl rfl
      | some a => exact .inr (by have := HR3.out.apart HN3.out (by decide); simp only [Value.ownBlock, ne_eq, Option.some.injEq]; omega))
  · have hd : (immR op.toNat == 1) = false := by simpa using h1
    rw [hd] at HO
    by_cases h5 : op = 5
    · subst h5
      have hl4 : st.getLast? = some 4 := by
        unfold addZ at ha
        rw [if_neg h1, if_pos rfl] at ha
        by_cases h4 : st.getLast? = some 4
        · exact h4
        · rw [if_neg h4] at ha; cases ha
      have ha2 : st' = st.dropLast ++ [5] ∧ en = false := by
        unfold addZ at ha
        rw [if_neg h1, if_pos rfl, if_pos hl4] at ha
        injection ha with ha
        injection ha with ha1 ha2
        exact ⟨ha1.symm, ha2.symm⟩
      obtain ⟨rfl, rfl⟩ := ha2
      have e5 : (((5 : UInt8).toNat : Int) == 5) = true := rfl
      have HTU := Lib.hid (fun w1 h1 h2 => turn_yes (W := w1) (nb := nb) (base := base) (v := v) (st := st) h1 h2 hs hl4)
      have HO5 := Lib.hid (show Calls Tryz.prog 144 #[.int .u8 5] W (fun e w' => e = .returned (.bool false) ∧ Below W.heap.size W w') from HO.out)
      clear h1 hd ha hl4
      go_enter Tryz.func111, Tryz.ntmps111
      go_wp2_with (first
        | (go_at_call 145; go_must ((with_reducible refine (HTU.out _ HN1.out HR1.out).mono ?_); intro e w2 hq; obtain ⟨rfl, hmv⟩ := hq; have HM := Lib.hid hmv; clear hmv))
        | (go_at_call 144; go_must ((with_reducible refine HO5.out.mono ?_); rintro e w1 ⟨rfl, hb1⟩; have HB1 := Lib.hid hb1; have HR1 := Lib.hid (HR.out.later hb1); have HN1 := Lib.hid (HN.out.below hb1); clear hb1)))
      go_ret
      exact ⟨rfl, Moved.after HM.out HB1.out⟩
    · have d5 : ((op.toNat : Int) == 5) = false := by
        have : op.toNat ≠ (5 : UInt8).toNat := fun e => h5 (UInt8.toNat_inj.1 e)
        have e5 : (5 : UInt8).toNat = 5 := rfl
        rw [e5] at this
        simp; omega
      by_cases h11 : op = 11
      · subst h11
        rw [addZ_11] at ha
        injection ha with ha
        injection ha with ha1 ha2
        have HE1 := Lib.hid ha1
        have HE2 := Lib.hid ha2
        clear ha1 ha2
        have e11 : (((11 : UInt8).toNat : Int) == 11) = true := rfl
        have HCL := Lib.hid (fun w1 h1 h2 => close_ok (W := w1) (nb := nb) (base := base) (v := v) (st := st) h1 h2 hs)
        have HO5 := Lib.hid (show Calls Tryz.prog 144 #[.int .u8 11] W (fun e w' => e = .returned (.bool false) ∧ Below W.heap.size W w') from HO.out)
        clear h1 hd h5
        go_enter Tryz.func111, Tryz.ntmps111
        go_wp2_with (first
          | (go_at_call 146; go_must ((with_reducible refine (HCL.out _ HN1.out HR1.out).mono ?_); rintro e w2 ⟨rfl, hmv⟩; have HM := Lib.hid hmv; clear hmv))
          | (go_at_call 144; go_must ((with_reducible refine HO5.out.mono ?_); rintro e w1 ⟨rfl, hb1⟩; have HB1 := Lib.hid hb1; have HR1 := Lib.hid (HR.out.later hb1); have HN1 := Lib.hid (HN.out.below hb1); clear hb1)))
        go_ret
        refine ⟨rfl, ?_⟩
        rw [← HE1.out, ← HE2.out]
        exact Moved.after HM.out HB1.out
      · have d11 : ((op.toNat : Int) == 11) = false := by
          have : op.toNat ≠ (11 : UInt8).toNat := fun e => h11 (UInt8.toNat_inj.1 e)
          have e11 : (11 : UInt8).toNat = 11 := rfl
          rw [e11] at this
          simp; omega
        unfold addZ at ha
        rw [if_neg h1, if_neg h5, if_neg h11] at ha
        injection ha with ha
        injection ha with ha1 ha2
        subst ha1; subst ha2
        clear h1 hd h5 h11
        go_enter Tryz.func111, Tryz.ntmps111
        go_wp2_with (go_at_call 144; go_must ((with_reducible refine HO.out.mono ?_); rintro e w1 ⟨rfl, hb1⟩; have HB1 := Lib.hid hb1; have HR1 := Lib.hid (HR.out.later hb1); have HN1 := Lib.hid (HN.out.below hb1); clear hb1))
        go_ret
        exact ⟨rfl, v, w1, HN1.out, HR1.out, gb_of_below _ HB1.out, gb_refl _ _⟩
theorem add_no {op : UInt8} (hT : Tabs W) (hn : Whole W nb 141 #[v, .bool false]) (hr : Row W base v st) (hs : st.length ≤ 100000) (ha : addZ st op = none) :
    Calls Tryz.prog 111 #[.pointer (some ⟨nb, 0, none⟩), .int .u8 op.toNat] W fun e W' => e = .returned (.bool false) ∧ Below W.heap.size W W' := by
  unfold addZ at ha
  by_cases h1 : immR op.toNat = 1
  · rw [if_pos h1] at ha; cases ha
  · rw [if_neg h1] at ha
    by_cases h5 : op = 5
    · rw [if_pos h5] at ha
      have hl4 : st.getLast? ≠ some 4 := fun e => by rw [if_pos e] at ha; cases ha
      subst h5
      have HO := Lib.hid (opens_any (5 : UInt8).toNat W hT (by decide))
      have hd : (immR (5 : UInt8).toNat == 1) = false := by simpa using h1
      rw [hd] at HO
      have c1 := hn.cell 1
      simp only [List.getElem?_toArray, List.getElem?_cons_zero, List.getElem?_cons_succ] at c1
      have HN := Lib.hid hn
      have HR := Lib.hid hr
      have e5 : (((5 : UInt8).toNat : Int) == 5) = true := rfl
      have HTU := Lib.hid (fun w1 h1 h2 => turn_no (W := w1) (nb := nb) (base := base) (v := v) (st := st) h1 h2 hs hl4)
      have HO5 := Lib.hid (show Calls Tryz.prog 144 #[.int .u8 5] W (fun e w' => e = .returned (.bool false) ∧ Below W.heap.size W w') from HO.out)
      clear h1 hd ha hl4 hn hr
      go_enter Tryz.func111, Tryz.ntmps111
      go_wp2_with (first
        | (go_at_call 145; go_must ((with_reducible refine (HTU.out _ HN1.out HR1.out).mono ?_); rintro e w2 ⟨rfl, rfl⟩))
        | (go_at_call 144; go_must ((with_reducible refine HO5.out.mono ?_); rintro e w1 ⟨rfl, hb1⟩; have HB1 := Lib.hid hb1; have HR1 := Lib.hid (HR.out.later hb1); have HN1 := Lib.hid (HN.out.below hb1); clear hb1)))
      go_ret
      exact ⟨rfl, HB1.out⟩
    · rw [if_neg h5] at ha
      by_cases h11 : op = 11
      · rw [if_pos h11] at ha
        by_cases h0 : st = []
        · rw [if_pos h0] at ha; cases ha
        · rw [if_neg h0] at ha; cases ha
      · rw [if_neg h11] at ha; cases ha
end
end Go.Proofs.YtebgmfjgapmpfaaGreatDoor

/- A list of instructions that lies somewhere; Shape, the reference's Walk and Shape. -/
namespace Go.Proofs.YtebgmfjgapmpfaaGreatDoor
open Go.RowKit
set_option linter.unusedVariables false
set_option maxRecDepth 100000

/-- The instructions lie at A, one behind the other, each with its labels. -/
def Ins (w : World) (A : Option Addr) (l : List I) : Prop :=
  ∀ j i, l[j]? = some i → ∃ b off B c, A = some ⟨b, off, none⟩ ∧ b < w.heap.size ∧ (w.cell? ⟨b, off + j * 4, none⟩ = some (.int .u8 i.op.toNat) ∧ w.cell? ⟨b, off + j * 4 + 1, none⟩ = some (.int .u64 i.a) ∧
    w.cell? ⟨b, off + j * 4 + 2, none⟩ = some (.int .u64 i.b) ∧ w.cell? ⟨b, off + j * 4 + 3, none⟩ = some (.slice B i.l.length c)) ∧ LiesL w B i.l
theorem Ins.below {w w' : World} {A : Option Addr} {l : List I} (h : Ins w A l) (hb : Below w.heap.size w w') : Ins w' A l := fun j i hi => by
  obtain ⟨b, off, B, c, e, h1, ⟨k0, k1, k2, k3⟩, hl⟩ := h j i hi
  exact ⟨b, off, B, c, e, Nat.lt_of_lt_of_le h1 hb.size, ⟨(hb.cell (p := ⟨b, _, none⟩) h1).trans k0, (hb.cell (p := ⟨b, _, none⟩) h1).trans k1, (hb.cell (p := ⟨b, _, none⟩) h1).trans k2, (hb.cell (p := ⟨b, _, none⟩) h1).trans k3⟩, hl.below hb⟩
def opsOf (l : List I) : List UInt8 := l.map (·.op)
def shapeZ (l : List I) : Int := if shapeGo [] (opsOf l) = true then 0 else 30
theorem ops_drop {l : List I} {k : Nat} {i : I} (h : l[k]? = some i) : (opsOf l).drop k = i.op :: (opsOf l).drop (k + 1) := by
  unfold opsOf
  have hk := (List.getElem?_eq_some_iff.1 h)
  obtain ⟨h1, h2⟩ := hk
  rw [List.drop_eq_getElem_cons (by simpa using h1)]
  simp [h2]
/-- The total, seen from where the walk stands. -/
def Stand (l : List I) (k : Nat) (st : List UInt8) (en : Bool) : Prop := shapeGo [] (opsOf l) = (if en then ((opsOf l).drop k).isEmpty else shapeGo st ((opsOf l).drop k))
theorem Stand.step {l : List I} {k : Nat} {st : List UInt8} {i : I} (h : Stand l k st false) (hi : l[k]? = some i) : match addZ st i.op with
    | none => shapeGo [] (opsOf l) = false
    | some (st', en) => Stand l (k + 1) st' en := by
  unfold Stand at h
  rw [if_neg (by simp), ops_drop hi, shape_add] at h
  cases ha : addZ st i.op with
  | none => rw [ha] at h; exact h
  | some q =>
    obtain ⟨st', en⟩ := q
    rw [ha] at h
    cases en
    · exact h
    · exact h
theorem addZ_len {st st' : List UInt8} {op : UInt8} {en : Bool} (h : addZ st op = some (st', en)) : st'.length ≤ st.length + 1 := by
  unfold addZ at h
  repeat' split at h
  all_goals first | (injection h with h; injection h with h1 h2; subst h1; simp; omega) | (injection h with h; injection h with h1 h2; subst h1; simp) | cases h
/-- nest at block nb: its two cells, its row. -/
def Nest (w : World) (nb base : Nat) (st : List UInt8) (en : Bool) : Prop := ∃ v, Whole w nb 141 #[v, .bool en] ∧ Row w base v st
theorem Moved.below {nb base : Nat} {v : Value} {st st0 : List UInt8} {en : Bool} {W W' : World} (h : Moved nb base v st en W W') (hr : Row W base v st0) (hb : base ≤ W.heap.size) (hnb : base ≤ nb) : Below base W W' := by
  obtain ⟨v', Wm, h1, h2, h3, h4⟩ := h
  have b1 : Below base W Wm := Below.grown (Below.refl _ _) h3 hb (fun k hk => (World.ownsRow.lt hr k hk).1)
  exact Below.grown b1 h4 (Nat.le_trans hb h3.size) (fun k hk => by injection hk with hk; omega)
theorem Moved.nest {nb base : Nat} {v : Value} {st : List UInt8} {en : Bool} {W W' : World} (h : Moved nb base v st en W W') : Nest W' nb base st en := by
  obtain ⟨v', Wm, h1, h2, h3, h4⟩ := h
  exact ⟨v', h1, h2⟩
set_option maxHeartbeats 1000000 in
theorem shape_any {w : World} {A : Option Addr} {c : Nat} {l : List I} (hT : Tabs w) (hl : Ins w A l) (hn : l.length ≤ 20000) :
    Calls Tryz.prog 72 #[.slice A l.length c] w (IntPost (shapeZ l) w) := by
  have HL := Lib.hid hl
  have HT := Lib.hid hT
  have HN0 := Lib.hid (Whole.made w 141 #[.slice none 0 0, .bool false])
  obtain ⟨n, hnn⟩ : ∃ n, n = l.length := ⟨_, rfl⟩
  rw [← hnn] at hn ⊢
  have HNN := Lib.hid hnn
  have g0 : decide (20000 < (n : Int)) = false := decide_eq_false (by omega)
  clear hT hl hnn
  go_enter Tryz.func72, Tryz.ntmps72
  go_wp2
  go_loopw [11] (fun i wr => ∃ (k : Nat) (st : List UInt8) (en : Bool), k ≤ n ∧ i = .int .i64 k ∧ Nest wr w.heap.size w.heap.size st en ∧ st.length ≤ k ∧ Stand l k st en ∧ Below w.heap.size w wr ∧ w.heap.size < wr.heap.size) (fun i _ => n - (intOf i).toNat)
  case atStart => exact ⟨0, [], false, Nat.zero_le _, rfl, ⟨_, HN0.out, Row.nil _ _⟩, Nat.le_refl _, rfl, below_box w _, by simp⟩
  case round =>
    obtain ⟨k, st, en, hk, rfl, ⟨v, hnw, hrow⟩, hsl, hst, hb, hlt0⟩ := hrel
    by_cases hlt : k < n
    · obtain ⟨i, hi⟩ : ∃ i, l[k]? = some i := ⟨_, List.getElem?_eq_getElem (by rw [← HNN.out]; exact hlt)⟩
      obtain ⟨b, off, B, cc, rfl, hbl, ⟨k0, k1, k2, k3⟩, _⟩ := HL.out k i hi
      have m0 := (hb.cell (p := ⟨b, off + k * 4, none⟩) hbl).trans k0
      have m1 := (hb.cell (p := ⟨b, off + k * 4 + 1, none⟩) hbl).trans k1
      have m2 := (hb.cell (p := ⟨b, off + k * 4 + 2, none⟩) hbl).trans k2
      have m3 := (hb.cell (p := ⟨b, off + k * 4 + 3, none⟩) hbl).trans k3
      have HB := Lib.hid hb
      have HRW := Lib.hid (hrow.alloc (.cells (insC i B cc) 44))
      have HNW := Lib.hid (hnw.alloc (.cells (insC i B cc) 44))
      have HT2 := Lib.hid ((HT.out.below hb).below (below_box wr (.cells (insC i B cc) 44)))
      have hle : w.heap.size ≤ (wr.alloc (.cells (insC i B cc) 44)).heap.size := by rw [size_box]; omega
      cases en with
      | true =>
        have HS : Hid (shapeZ l = 30) := by
          unfold Stand at hst
          rw [if_pos rfl, ops_drop hi] at hst
          show shapeZ l = 30
          unfold shapeZ
          rw [hst, if_neg (by simp)]
        have HA := Lib.hid (add_ended HNW.out i.op)
        clear hnw hrow hst hb k0 k1 k2 k3 hi
        go_wp2_with (go_at_call 111; go_must ((with_reducible refine HA.out.mono ?_); rintro e w2 ⟨rfl, rfl⟩))
        go_ret
        exact ret_below HS.out.symm (HB.out.alloc (by omega) _)
      | false =>
        have hstep := hst.step hi
        cases ha : addZ st i.op with
        | none =>
          rw [ha] at hstep
          have HS : Hid (shapeZ l = 30) := by
            show shapeZ l = 30
            unfold shapeZ
            rw [hstep, if_neg (by simp)]
          have HA := Lib.hid (add_no HT2.out HNW.out HRW.out (by omega) ha)
          clear hnw hrow hst hb k0 k1 k2 k3 hi hstep ha
          go_wp2_with (go_at_call 111; go_must ((with_reducible refine HA.out.mono ?_); rintro e w2 ⟨rfl, hb2⟩; have HB2 := Lib.hid hb2; clear hb2))
          go_ret
          exact ret_below HS.out.symm ((HB.out.alloc (by omega) _).trans (HB2.out.mono hle))
        | some q =>
          obtain ⟨st', en'⟩ := q
          rw [ha] at hstep
          have HS := Lib.hid hstep
          have hl2 := addZ_len ha
          have HA := Lib.hid (add_ok HT2.out HNW.out HRW.out hle (by omega) ha)
          clear hnw hrow hst hb k0 k1 k2 k3 hi hstep ha
          go_wp2_with (go_at_call 111; go_must ((with_reducible refine HA.out.mono ?_); rintro e w2 ⟨rfl, hm⟩; have HM := Lib.hid hm; clear hm))
          go_roundw
          case rel =>
            have hbb := HM.out.below HRW.out hle (Nat.le_refl _)
            exact ⟨k + 1, st', en', by omega, by go_num, HM.out.nest, by omega, HS.out, (HB.out.alloc (by omega) _).trans hbb, by have := hbb.size; rw [size_box] at this; omega⟩
          case measure => simp [intOf]; omega
    · obtain rfl : k = n := by omega
      have c1 := hnw.cell 1
      simp only [List.getElem?_toArray, List.getElem?_cons_zero, List.getElem?_cons_succ] at c1
      have hd : (opsOf l).drop k = [] := List.drop_eq_nil_of_le (by unfold opsOf; rw [List.length_map, HNN.out]; exact Nat.le_refl _)
      unfold Stand at hst
      rw [hd] at hst
      have HB := Lib.hid hb
      cases en with
      | true =>
        have HS : Hid (shapeZ l = 0) := by show shapeZ l = 0; unfold shapeZ; rw [hst]; rfl
        clear hnw hrow hst hb hd
        go_wp2
        go_ret
        exact ret_below HS.out.symm HB.out
      | false =>
        have HS : Hid (shapeZ l = 30) := by
          show shapeZ l = 30
          unfold shapeZ
          rw [hst, if_neg (by unfold shapeGo; simp)]
        clear hnw hrow hst hb hd
        go_wp2
        go_ret
        exact ret_below HS.out.symm HB.out
end Go.Proofs.YtebgmfjgapmpfaaGreatDoor

/- Bodies as plain data: groups of locals, instructions; the reference's Locals, Much. -/
namespace Go.Proofs.YtebgmfjgapmpfaaGreatDoor
open Go.RowKit
set_option linter.unusedVariables false
set_option maxRecDepth 100000

/-- A group of locals; a body. -/
structure Lo where
  n : UInt32
  t : UInt8
structure Bd where
  ls : List Lo
  b : List I
abbrev bdC (x : Bd) (L : Option Addr) (l : Nat) (B : Option Addr) (c : Nat) : Array Value := #[.slice L x.ls.length l, .slice B x.b.length c]
abbrev bdV (x : Bd) (L : Option Addr) (l : Nat) (B : Option Addr) (c : Nat) : Value := .agg (bdC x L l B c)
abbrev bdZ : Array Value := #[.slice none 0 0, .slice none 0 0]
abbrev TwoB (W : World) (b : Nat) (x : Bd) (L : Option Addr) (l : Nat) (B : Option Addr) (c : Nat) : Prop :=
  W.cell? ⟨b, 0, none⟩ = some (.slice L x.ls.length l) ∧ W.cell? ⟨b, 1, none⟩ = some (.slice B x.b.length c)
theorem Whole.bd {w : World} {b : Nat} {t : TypeId} {x : Bd} {L : Option Addr} {l : Nat} {B : Option Addr} {c : Nat} (h : Whole w b t (bdC x L l B c)) : TwoB w b x L l B c := ⟨h.cell 0, h.cell 1⟩
/-- A block that holds a body, in a world grown from B: what is held of it. -/
abbrev BxBd (W0 : World) (b : Nat) (x : Bd) (L : Option Addr) (l : Nat) (B : Option Addr) (c : Nat) (W : World) : Prop := (Whole W b 70 (bdC x L l B c) ∧ Below W0.heap.size W0 W) ∧ TwoB W b x L l B c
section
variable {W0 W W' : World} {b : Nat} {x : Bd} {L : Option Addr} {l : Nat} {B : Option Addr} {c : Nat}
theorem bxBd_on (h : BxBd W0 b x L l B c W) (hb : Below W.heap.size W W') : BxBd W0 b x L l B c W' := ⟨⟨h.1.1.below hb, h.1.2.trans (hb.mono h.1.2.size)⟩, (h.1.1.below hb).bd⟩
theorem bxBd_start (w : World) (x : Bd) (L : Option Addr) (l : Nat) (B : Option Addr) (c : Nat) : BxBd w w.heap.size x L l B c (w.alloc (.cells (bdC x L l B c) 70)) := ⟨⟨Whole.made _ _ _, below_box _ _⟩, (Whole.made w 70 (bdC x L l B c)).bd⟩
theorem bxBd_bel (h : BxBd W0 b x L l B c W) : Below W0.heap.size W0 W := h.1.2
end
/-- The slice at A reads as these groups. -/
def Los (w : World) (A : Option Addr) (l : List Lo) : Prop :=
  ∀ j x, l[j]? = some x → ∃ b off, A = some ⟨b, off, none⟩ ∧ b < w.heap.size ∧ w.cell? ⟨b, off + j * 2, none⟩ = some (.int .u32 x.n.toNat) ∧ w.cell? ⟨b, off + j * 2 + 1, none⟩ = some (.int .u8 x.t.toNat)
theorem Los.below {w w' : World} {A : Option Addr} {l : List Lo} (h : Los w A l) (hb : Below w.heap.size w w') : Los w' A l := fun j x hx => by
  obtain ⟨b, off, e, h1, h2, h3⟩ := h j x hx
  exact ⟨b, off, e, Nat.lt_of_lt_of_le h1 hb.size, (hb.cell (p := ⟨b, _, none⟩) h1).trans h2, (hb.cell (p := ⟨b, _, none⟩) h1).trans h3⟩
/-- How many locals behind n; -1: too many. -/
def locGo : Nat → List Lo → Int
  | n, [] => n
  | n, x :: r => if 1000 < x.n.toNat ∨ 1000 < n + x.n.toNat then -1 else locGo (n + x.n.toNat) r
theorem lo_drop {l : List Lo} {k : Nat} {x : Lo} (h : l[k]? = some x) : l.drop k = x :: l.drop (k + 1) := by
  obtain ⟨h1, h2⟩ := List.getElem?_eq_some_iff.1 h
  rw [List.drop_eq_getElem_cons h1, h2]
theorem locGo_ge : ∀ (n : Nat) (l : List Lo), locGo n l < 0 → locGo n l = -1
  | n, [], h => by unfold locGo at h; omega
  | n, x :: r, h => by
    unfold locGo at h ⊢
    by_cases e : 1000 < x.n.toNat ∨ 1000 < n + x.n.toNat
    · rw [if_pos e]
    · rw [if_neg e] at h ⊢
      exact locGo_ge _ r h
/-- Their types, one for each local. -/
def typL (l : List Lo) : List UInt8 := l.flatMap fun x => List.replicate x.n.toNat x.t
theorem typL_len : ∀ (n : Nat) (l : List Lo), 0 ≤ locGo n l → locGo n l = n + (typL l).length ∧ (n ≤ 1000 → n + (typL l).length ≤ 1000)
  | n, [], h => by simp [locGo, typL]
  | n, x :: r, h => by
    unfold locGo at h ⊢
    by_cases e : 1000 < x.n.toNat ∨ 1000 < n + x.n.toNat
    · rw [if_pos e] at h; omega
    · rw [if_neg e] at h ⊢
      obtain ⟨h1, h2⟩ := typL_len _ r h
      have h3 : (typL (x :: r)).length = x.n.toNat + (typL r).length := by unfold typL; rw [List.flatMap_cons, List.length_append, List.length_replicate]
      rw [h3]
      refine ⟨by rw [h1]; omega, fun _ => by have := h2 (by omega); omega⟩
set_option maxHeartbeats 2000000 in
theorem rloc_any {w : World} {A : Option Addr} {c : Nat} {l : List Lo} (hl : Los w A l) (hn : (l.length : Int) ≤ 9223372036854775807) :
    Calls Tryz.prog 73 #[.slice A l.length c] w fun e w' => e = .returned (.int .i64 (locGo 0 l)) ∧ w = w' := by
  have HL := Lib.hid hl
  obtain ⟨R, hR⟩ : ∃ R, R = locGo 0 l := ⟨_, rfl⟩
  have HR := Lib.hid hR
  rw [← hR]
  obtain ⟨n, hnn⟩ : ∃ n, n = l.length := ⟨_, rfl⟩
  have HNN := Lib.hid hnn
  rw [← hnn] at hn ⊢
  clear hl hnn hR
  go_enter Tryz.func73, Tryz.ntmps73
  go_wp2
  go_loopw [3, 4] (fun s i wr => ∃ (k m : Nat), k ≤ n ∧ i = .int .i64 k ∧ s = .int .i64 m ∧ m ≤ 1000 ∧ locGo m (l.drop k) = R ∧ wr = w) (fun _ i _ => n - (intOf i).toNat)
  case atStart => exact ⟨0, 0, Nat.zero_le _, rfl, rfl, by omega, HR.out.symm, rfl⟩
  case round =>
    obtain ⟨k, m, hk, rfl, rfl, hm, hg, rfl⟩ := hrel
    by_cases hlt : k < n
    · obtain ⟨x, hx⟩ : ∃ x, l[k]? = some x := ⟨_, List.getElem?_eq_getElem (by rw [← HNN.out]; exact hlt)⟩
      obtain ⟨b, off, rfl, hbl, c0, c1⟩ := HL.out k x hx
      rw [lo_drop hx] at hg
      unfold locGo at hg
      have hxn := x.n.toNat_lt
      obtain ⟨v, hv⟩ : ∃ v, v = x.n.toNat := ⟨_, rfl⟩
      rw [← hv] at hg c0 hxn
      have wv : IntKind.i64.wrap (v : Int) = v := by rw [IntKind.wrap_i64]; omega
      have ws : IntKind.i64.wrap ((m : Int) + (v : Int)) = (m : Int) + (v : Int) := by rw [IntKind.wrap_i64]; omega
      by_cases h1 : 1000 < v
      · rw [if_pos (.inl h1)] at hg
        have d1 : decide ((1000 : Int) < (v : Int)) = true := decide_eq_true (by omega)
        clear h1 hv hx
        go_wp2
        go_ret
        subst hg
        exact ⟨rfl, rfl⟩
      · have d1 : decide ((1000 : Int) < (v : Int)) = false := decide_eq_false (by omega)
        by_cases h2 : 1000 < m + v
        · rw [if_pos (.inr h2)] at hg
          have d2 : decide ((1000 : Int) < (m : Int) + (v : Int)) = true := decide_eq_true (by omega)
          clear h1 h2 hv hx
          go_wp2
          go_ret
          subst hg
          exact ⟨rfl, rfl⟩
        · rw [if_neg (by omega)] at hg
          have d2 : decide ((1000 : Int) < (m : Int) + (v : Int)) = false := decide_eq_false (by omega)
          have HG := Lib.hid hg
          clear h1 hv hx hg
          go_wp2
          go_roundw
          case rel => exact ⟨k + 1, m + v, by omega, by go_num, by rw [Int.natCast_add], by omega, HG.out, trivial⟩
          case measure => simp [intOf]; omega
    · have hkn : k = l.length := by rw [← HNN.out]; omega
      rw [hkn, List.drop_length] at hg
      have hg2 : (m : Int) = R := hg
      have HG := Lib.hid hg2
      clear hg hg2 hkn
      go_wp2
      go_ret
      have e := HG.out
      subst e
      exact ⟨rfl, rfl⟩
/-- Has one many labels? -/
def muchZ (l : List I) : Bool := l.any fun i => decide (50 < i.l.length)
theorem much_drop {l : List I} {k : Nat} {i : I} (h : l[k]? = some i) : muchZ (l.drop k) = (decide (50 < i.l.length) || muchZ (l.drop (k + 1))) := by
  obtain ⟨h1, h2⟩ := List.getElem?_eq_some_iff.1 h
  rw [List.drop_eq_getElem_cons h1, h2]
  rfl
set_option maxHeartbeats 2000000 in
theorem rmuch_any {w : World} {x : Bd} {L : Option Addr} {l : Nat} {B : Option Addr} {c : Nat} (hi : Ins w B x.b) (hn : (x.b.length : Int) ≤ 9223372036854775807) :
    Calls Tryz.prog 32 #[bdV x L l B c] w (BoolPost (muchZ x.b) w) := by
  have H0 := Lib.hid (bxBd_start w x L l B c)
  have HI := Lib.hid (hi.below (below_box w (.cells (bdC x L l B c) 70)))
  obtain ⟨R, hR⟩ : ∃ R, R = muchZ x.b := ⟨_, rfl⟩
  have HR := Lib.hid hR
  rw [← hR]
  clear hi hR
  go_enter Tryz.func32, Tryz.ntmps32
  go_wp2
  obtain ⟨c0, c1⟩ := H0.out.2
  generalize w.alloc (.cells (bdC x L l B c) 70) = W at *
  go_loopw [3] (fun i wr => ∃ (k : Nat), k ≤ x.b.length ∧ i = .int .i64 k ∧ muchZ (x.b.drop k) = R ∧ wr = W) (fun i _ => x.b.length - (intOf i).toNat)
  case atStart => exact ⟨0, Nat.zero_le _, rfl, HR.out.symm, rfl⟩
  case round =>
    obtain ⟨k, hk, rfl, hg, rfl⟩ := hrel
    by_cases hlt : k < x.b.length
    · obtain ⟨i, hx⟩ : ∃ i, x.b[k]? = some i := ⟨_, List.getElem?_eq_getElem hlt⟩
      obtain ⟨b, off, B1, d, rfl, hbl, ⟨k0, k1, k2, k3⟩, _⟩ := HI.out k i hx
      rw [much_drop hx] at hg
      by_cases h1 : 50 < i.l.length
      · rw [decide_eq_true h1, Bool.true_or] at hg
        have d1 : decide ((50 : Int) < (i.l.length : Int)) = true := decide_eq_true (by omega)
        clear h1 hx
        subst hg
        go_wp2
        go_ret
        exact ⟨rfl, bxBd_bel H0.out⟩
      · rw [decide_eq_false h1, Bool.false_or] at hg
        have d1 : decide ((50 : Int) < (i.l.length : Int)) = false := decide_eq_false (by omega)
        have HG := Lib.hid hg
        clear h1 hx hg
        go_wp2
        go_roundw
        case rel => exact ⟨k + 1, by omega, by go_num, HG.out, trivial⟩
        case measure => simp [intOf]; omega
    · have hkn : k = x.b.length := by omega
      rw [hkn, List.drop_length] at hg
      have hg2 : false = R := hg
      clear hg hkn
      subst hg2
      go_wp2
      go_ret
      exact ⟨rfl, bxBd_bel H0.out⟩
end Go.Proofs.YtebgmfjgapmpfaaGreatDoor

/- The reference's Walk and Shape. -/
namespace Go.Proofs.YtebgmfjgapmpfaaGreatDoor
open Go.RowKit
set_option linter.unusedVariables false
set_option maxRecDepth 100000

def opc (c : UInt8) : UInt8 := if c = 4 then 105 else if c = 5 then 101 else 98
def opens (n : Nat) : Bool := decide (n = 2 ∨ n = 3 ∨ n = 4)
theorem opens_all : ∀ n, n < 256 → (immR n == 1) = opens n := by decide +kernel
theorem opens_iff {op : UInt8} : immR op.toNat = 1 ↔ (op.toNat = 2 ∨ op.toNat = 3 ∨ op.toNat = 4) := by
  have := opens_all op.toNat op.toNat_lt
  constructor
  · intro h
    have h2 : (immR op.toNat == 1) = true := by simpa using h
    rw [h2] at this
    unfold opens at this
    simpa using this.symm
  · intro h
    have h2 : opens op.toNat = true := by unfold opens; simpa using h
    rw [h2] at this
    simpa using this
/-- Only what opens a block, or an else, stands there. -/
def Clean (st : List UInt8) : Prop := ∀ c ∈ st, c.toNat = 2 ∨ c.toNat = 3 ∨ c.toNat = 4 ∨ c.toNat = 5
theorem clean_add {st st' : List UInt8} {op : UInt8} {en : Bool} (h : Clean st) (ha : addZ st op = some (st', en)) : Clean st' := by
  unfold addZ at ha
  by_cases h1 : immR op.toNat = 1
  · rw [if_pos h1] at ha
    injection ha with ha; injection ha with ha1 ha2
    subst ha1
    intro c hc
    rcases List.mem_append.1 hc with hc | hc
    · exact h c hc
    · rw [List.mem_singleton] at hc
      subst hc
      have := opens_iff.1 h1
      omega
  · rw [if_neg h1] at ha
    by_cases h5 : op = 5
    · rw [if_pos h5] at ha
      by_cases h4 : st.getLast? = some 4
      · rw [if_pos h4] at ha
        injection ha with ha; injection ha with ha1 ha2
        subst ha1
        intro c hc
        rcases List.mem_append.1 hc with hc | hc
        · exact h c ((List.dropLast_sublist st).subset hc)
        · rw [List.mem_singleton] at hc
          subst hc
          exact .inr (.inr (.inr rfl))
      · rw [if_neg h4] at ha; cases ha
    · rw [if_neg h5] at ha
      by_cases h11 : op = 11
      · rw [if_pos h11] at ha
        by_cases h0 : st = []
        · rw [if_pos h0] at ha
          injection ha with ha; injection ha with ha1 ha2
          subst ha1
          exact h
        · rw [if_neg h0] at ha
          injection ha with ha; injection ha with ha1 ha2
          subst ha1
          exact fun c hc => h c ((List.dropLast_sublist st).subset hc)
      · rw [if_neg h11] at ha
        injection ha with ha; injection ha with ha1 ha2
        subst ha1
        exact h
theorem op_is {op : UInt8} {n : Nat} (h : op.toNat = n) (hn : n < 256) : op = UInt8.ofNat n := by
  apply u8_ext
  rw [h, UInt8.toNat_ofNat']
  omega
theorem last_map {st : List UInt8} {x : UInt8} (h : st.getLast? = some x) : (st.map opc)[st.length - 1]? = some (opc x) := by
  rw [List.getElem?_map, ← List.getLast?_eq_getElem?, h]
  rfl
theorem opc_i {st : List UInt8} {x : UInt8} (hc : Clean st) (h : st.getLast? = some x) : (((opc x).toNat : Int) != 105) = decide (x ≠ 4) := by
  have hx : x ∈ st := List.mem_of_getLast? h
  have := hc x hx
  unfold opc
  by_cases h4 : x = 4
  · subst h4; rfl
  · rw [if_neg h4]
    by_cases h5 : x = 5
    · subst h5; rfl
    · rw [if_neg h5]
      simp [h4]
theorem map_dropLast (st : List UInt8) : (st.map opc).take (st.length - 1) = st.dropLast.map opc := by
  rw [← List.map_take, List.dropLast_eq_take]
/-- What Walk tells: is it a body? -/
def WalkPost (l : List I) (w : World) (e : Ending) (w' : World) : Prop :=
  ∃ m x : Int, e = .returned (.tuple #[.int .i64 m, .int .i64 x]) ∧ (shapeGo [] (opsOf l) = true ↔ (m ≠ 0 ∧ m = l.length)) ∧ Below w.heap.size w w'
set_option maxHeartbeats 3000000 in
theorem walk_any {w : World} {A : Option Addr} {c : Nat} {l : List I} (hl : Ins w A l) (hn : l.length ≤ 20000) :
    Calls Tryz.prog 112 #[.slice A l.length c] w (WalkPost l w) := by
  have HL := Lib.hid hl
  obtain ⟨n, hnn⟩ : ∃ n, n = l.length := ⟨_, rfl⟩
  have HNN := Lib.hid hnn
  rw [← hnn] at hn ⊢
  clear hl hnn
  go_enter Tryz.func112, Tryz.ntmps112
  go_wp2
  go_loopw [4, 5] (fun s i wr => ∃ (k : Nat) (st : List UInt8), k ≤ n ∧ i = .int .i64 k ∧ s = .string (S (st.map opc)) ∧ st.length ≤ k ∧ Clean st ∧ Stand l k st false ∧ Below w.heap.size w wr) (fun _ i _ => n - (intOf i).toNat)
  case atStart => exact ⟨0, [], Nat.zero_le _, rfl, rfl, Nat.le_refl _, (fun c h => by cases h), rfl, Below.refl _ _⟩
  case round =>
    obtain ⟨k, st, hk, rfl, rfl, hsl, hcl, hst, hb⟩ := hrel
    have HB := Lib.hid hb
    by_cases hlt : k < n
    · obtain ⟨i, hi⟩ : ∃ i, l[k]? = some i := ⟨_, List.getElem?_eq_getElem (by rw [← HNN.out]; exact hlt)⟩
      obtain ⟨b, off, B, cc, rfl, hbl, ⟨k0, _, _, _⟩, _⟩ := HL.out k i hi
      have m0 := (hb.cell (p := ⟨b, off + k * 4, none⟩) hbl).trans k0
      have hstep := hst.step hi
      obtain ⟨t, ht⟩ : ∃ t, t = st.map opc := ⟨_, rfl⟩
      have htl : t.length = st.length := by rw [ht, List.length_map]
      have hsz := S_size t
      rw [← ht]
      have HTT := Lib.hid ht
      by_cases h23 : i.op.toNat = 2 ∨ i.op.toNat = 3
      · have ha : addZ st i.op = some (st ++ [i.op], false) := by unfold addZ; rw [if_pos (opens_iff.2 (by omega))]
        rw [ha] at hstep
        have hc2 := clean_add hcl ha
        have HS := Lib.hid hstep
        have HC := Lib.hid hc2
        have HO : Hid (S t ++ { data := #[98] } = S ((st ++ [i.op]).map opc)) := by
          show S t ++ S [98] = _
          rw [S_append, List.map_append, HTT.out]
          congr 2
          unfold opc
          rw [List.map_cons, List.map_nil, if_neg (by intro e; rw [e] at h23; revert h23; decide), if_neg (by intro e; rw [e] at h23; revert h23; decide)]
        have q : (S t).size + 1 ≤ 9223372036854775807 := by omega
        clear hst hb k0 hi hstep ha hc2 hcl ht
        rcases h23 with h2 | h2
        all_goals
          rw [h2] at m0
          go_wp2
          go_roundw
          case rel => exact ⟨k + 1, st ++ [i.op], by omega, by go_num, by rw [HO.out], by simp; omega, HC.out, HS.out, HB.out⟩
          case measure => simp [intOf]; omega
      · by_cases h4 : i.op.toNat = 4
        · have ha : addZ st i.op = some (st ++ [i.op], false) := by unfold addZ; rw [if_pos (opens_iff.2 (by omega))]
          rw [ha] at hstep
          have hc2 := clean_add hcl ha
          have HS := Lib.hid hstep
          have HC := Lib.hid hc2
          have HO : Hid (S t ++ { data := #[105] } = S ((st ++ [i.op]).map opc)) := by
            show S t ++ S [105] = _
            rw [S_append, List.map_append, HTT.out, op_is (n := 4) h4 (by decide)]
            rfl
          have q : (S t).size + 1 ≤ 9223372036854775807 := by omega
          clear hst hb k0 hi hstep ha hc2 hcl ht
          rw [h4] at m0
          go_wp2
          go_roundw
          case rel => exact ⟨k + 1, st ++ [i.op], by omega, by go_num, by rw [HO.out], by simp; omega, HC.out, HS.out, HB.out⟩
          case measure => simp [intOf]; omega
        · have d2 : ((i.op.toNat : Int) == 2) = false := by simp; omega
          have d3 : ((i.op.toNat : Int) == 3) = false := by simp; omega
          have d4 : ((i.op.toNat : Int) == 4) = false := by simp; omega
          have himm : ¬ immR i.op.toNat = 1 := fun e => by have := opens_iff.1 e; omega
          by_cases h5 : i.op.toNat = 5
          · have e5 : i.op = 5 := op_is (n := 5) h5 (by decide)
            rw [e5] at hstep himm
            by_cases h0 : st = []
            · have ha : addZ st 5 = none := by unfold addZ; rw [if_neg himm, if_pos rfl, h0, if_neg (by simp)]
              rw [ha] at hstep
              have HS := Lib.hid hstep
              have z0 : (S t).toList.isEmpty = true := by rw [S_toList, HTT.out, h0]; rfl
              clear hst hb k0 hi hstep ha hcl ht h0
              rw [h5] at m0
              go_wp2
              go_ret2
              exact ⟨0, k, rfl, by rw [HS.out]; simp, HB.out⟩
            · obtain ⟨x, hx⟩ : ∃ x, st.getLast? = some x := by cases h : st.getLast? with
                | none => exact absurd (List.getLast?_eq_none_iff.1 h) h0
                | some x => exact ⟨x, rfl⟩
              have z0 : (S t).toList.isEmpty = false := by
                rw [S_toList, HTT.out]
                cases st with
                | nil => exact absurd rfl h0
                | cons a r => rfl
              obtain ⟨u, hu⟩ : ∃ u, st.length = u + 1 := ⟨st.length - 1, by have := List.length_pos_iff.2 h0; omega⟩
              have hsu : (S t).size = u + 1 := by omega
              have hlu : u < (S t).size := by omega
              have hgl : t[u]? = some (opc x) := by have := last_map hx; rw [hu, Nat.add_sub_cancel] at this; rw [HTT.out]; exact this
              have hgx : (S t)[u]'hlu = opc x := by
                rw [S_get t u hlu]
                exact (List.getElem?_eq_some_iff.1 hgl).2
              have hcmp : ((((S t)[u]'hlu).toNat : Int) != 105) = decide (x ≠ 4) := by rw [hgx]; exact opc_i hcl hx
              have e1 : ((u + 1 : Nat) : Int) - 1 = u := by omega
              by_cases hx4 : x = 4
              · have hl4 : st.getLast? = some 4 := by rw [hx, hx4]
                have ha : addZ st 5 = some (st.dropLast ++ [5], false) := by unfold addZ; rw [if_neg himm, if_pos rfl, if_pos hl4]
                rw [ha] at hstep
                have hc2 := clean_add hcl ha
                have HS := Lib.hid hstep
                have HC := Lib.hid hc2
                have hcm : ((((S t)[u]'hlu).toNat : Int) != 105) = false := by rw [hcmp, hx4]; rfl
                have hsl2 : ∀ wx, (Instr.slice 9 (.string (S t)) none (some (.int .i64 (u : Int))) none).run Tryz.prog wx = .ok (.string (S (t.take u))) wx := fun wx => by
                  have := run_slice_string_h (P := Tryz.prog) wx 9 (S t) Tryz.underlying9 .i64 (u : Int) (by omega) (by omega)
                  rw [this, S_extract]
                  simp
                have htk : t.take u = st.dropLast.map opc := by rw [HTT.out, ← map_dropLast, hu, Nat.add_sub_cancel]
                obtain ⟨t2, ht2⟩ : ∃ t2, t2 = t.take u := ⟨_, rfl⟩
                rw [← ht2] at hsl2 htk
                have HTK := Lib.hid htk
                have hs2 := S_size t2
                have hl2 : t2.length ≤ 20000 := by rw [ht2, List.length_take]; omega
                have q : (S t2).size + 1 ≤ 9223372036854775807 := by omega
                have HO : Hid (S t2 ++ { data := #[101] } = S ((st.dropLast ++ [5]).map opc)) := by
                  show S t2 ++ S [101] = _
                  rw [S_append, List.map_append, HTK.out]
                  rfl
                have HLU := Lib.hid hu
                clear hst hb k0 hi hstep ha hc2 hcl ht ht2 htk hx hgl hgx hcmp hl4 h0 hx4
                rw [h5] at m0
                go_wp2
                go_roundw
                case rel => exact ⟨k + 1, st.dropLast ++ [5], by omega, by go_num, by rw [HO.out], by simp; have := HLU.out; omega, HC.out, HS.out, HB.out⟩
                case measure => simp [intOf]; omega
              · have ha : addZ st 5 = none := by unfold addZ; rw [if_neg himm, if_pos rfl, hx, if_neg (by simpa using hx4)]
                rw [ha] at hstep
                have HS := Lib.hid hstep
                have hcm : ((((S t)[u]'hlu).toNat : Int) != 105) = true := by rw [hcmp]; simpa using hx4
                clear hst hb k0 hi hstep ha hcl ht hx hgl hgx hcmp h0 hx4
                rw [h5] at m0
                go_wp2
                go_ret2
                exact ⟨0, k, rfl, by rw [HS.out]; simp, HB.out⟩
          · have d5 : ((i.op.toNat : Int) == 5) = false := by simp; omega
            have n5 : i.op ≠ 5 := fun e => h5 (by rw [e]; rfl)
            by_cases h11 : i.op.toNat = 11
            · have e11 : i.op = 11 := op_is (n := 11) h11 (by decide)
              rw [e11] at hstep himm
              by_cases h0 : st = []
              · have ha : addZ st 11 = some (st, true) := by rw [addZ_11, if_pos h0, if_pos h0]
                rw [ha] at hstep
                have z0 : (S t).toList.isEmpty = true := by rw [S_toList, HTT.out, h0]; rfl
                have HS : Hid (shapeGo [] (opsOf l) = true ↔ (((k : Int) + 1 ≠ 0) ∧ (k : Int) + 1 = n)) := by
                  have h : Stand l (k + 1) st true := hstep
                  unfold Stand at h
                  rw [if_pos rfl] at h
                  show _ ↔ _
                  rw [h, List.isEmpty_iff, List.drop_eq_nil_iff]
                  unfold opsOf
                  rw [List.length_map, ← HNN.out]
                  omega
                clear hst hb k0 hi hstep ha hcl ht h0
                rw [h11] at m0
                go_wp2
                go_ret2
                exact ⟨(k : Int) + 1, -1, rfl, by rw [← HNN.out]; exact HS.out, HB.out⟩
              · have ha : addZ st 11 = some (st.dropLast, false) := by rw [addZ_11, if_neg h0, if_neg h0]
                rw [ha] at hstep
                have hc2 := clean_add hcl ha
                have HS := Lib.hid hstep
                have HC := Lib.hid hc2
                have z0 : (S t).toList.isEmpty = false := by
                  rw [S_toList, HTT.out]
                  cases st with
                  | nil => exact absurd rfl h0
                  | cons a r => rfl
                obtain ⟨u, hu⟩ : ∃ u, st.length = u + 1 := ⟨st.length - 1, by have := List.length_pos_iff.2 h0; omega⟩
                have hsu : (S t).size = u + 1 := by omega
                have e1 : ((u + 1 : Nat) : Int) - 1 = u := by omega
                have hsl2 : ∀ wx, (Instr.slice 9 (.string (S t)) none (some (.int .i64 (u : Int))) none).run Tryz.prog wx = .ok (.string (S (t.take u))) wx := fun wx => by
                  have := run_slice_string_h (P := Tryz.prog) wx 9 (S t) Tryz.underlying9 .i64 (u : Int) (by omega) (by omega)
                  rw [this, S_extract]
                  simp
                have HTK := Lib.hid (show t.take u = st.dropLast.map opc by rw [HTT.out, ← map_dropLast, hu, Nat.add_sub_cancel])
                have HLU := Lib.hid hu
                clear hst hb k0 hi hstep ha hc2 hcl ht h0
                rw [h11] at m0
                go_wp2
                go_roundw
                case rel => exact ⟨k + 1, st.dropLast, by omega, by go_num, by rw [HTK.out], by simp; have := HLU.out; omega, HC.out, HS.out, HB.out⟩
                case measure => simp [intOf]; omega
            · have d11 : ((i.op.toNat : Int) == 11) = false := by simp; omega
              have n11 : i.op ≠ 11 := fun e => h11 (by rw [e]; rfl)
              have ha : addZ st i.op = some (st, false) := by unfold addZ; rw [if_neg himm, if_neg n5, if_neg n11]
              rw [ha] at hstep
              have HS := Lib.hid hstep
              have HC := Lib.hid hcl
              clear hst hb k0 hi hstep ha hcl
              rw [ht]
              go_wp2
              go_roundw
              case rel => exact ⟨k + 1, st, by omega, by go_num, rfl, by omega, HC.out, HS.out, HB.out⟩
              case measure => simp [intOf]; omega
    · obtain rfl : k = n := by omega
      have HS : Hid (shapeGo [] (opsOf l) = false) := by
        have h := hst
        unfold Stand at h
        rw [if_neg (by simp), List.drop_eq_nil_of_le (by unfold opsOf; rw [List.length_map, HNN.out]; exact Nat.le_refl _)] at h
        show _ = _
        rw [h]
        unfold shapeGo
        rfl
      clear hst hb hcl
      go_wp2
      go_ret2
      exact ⟨0, -1, rfl, by rw [HS.out]; simp, HB.out⟩
theorem refShape_any {w : World} {A : Option Addr} {c : Nat} {l : List I} (hl : Ins w A l) (hn : l.length ≤ 20000) :
    Calls Tryz.prog 74 #[.slice A l.length c] w (IntPost (shapeZ l) w) := by
  have HW := Lib.hid (walk_any (c := c) hl hn)
  have g0 : decide (20000 < (l.length : Int)) = false := decide_eq_false (by omega)
  by_cases hs : shapeGo [] (opsOf l) = true
  · have HE := Lib.hid (show shapeZ l = 0 by unfold shapeZ; rw [if_pos hs])
    have HW2 := Lib.hid (show Calls Tryz.prog 112 #[.slice A l.length c] w fun e w' => ∃ m x : Int, e = .returned (.tuple #[.int .i64 m, .int .i64 x]) ∧ (m ≠ 0 ∧ m = l.length) ∧ Below w.heap.size w w' from HW.out.mono fun e w' ⟨m, x, h1, h2, h3⟩ => ⟨m, x, h1, h2.1 hs, h3⟩)
    clear hs hl HW
    go_enter Tryz.func74, Tryz.ntmps74
    go_wp2_with (go_at_call 112; go_must ((with_reducible refine HW2.out.mono ?_); intro e w1 hq; obtain ⟨m, x, rfl, ⟨hm0, hm1⟩, hb⟩ := hq; have z1 : (m == 0) = false := (by simpa using hm0); have z2 : (m != (l.length : Int)) = false := (by simpa using hm1); have HB := Lib.hid hb; clear hb hm0 hm1))
    go_ret
    exact ret_below HE.out.symm HB.out
  · have HE := Lib.hid (show shapeZ l = 30 by unfold shapeZ; rw [if_neg hs])
    have HW2 := Lib.hid (show Calls Tryz.prog 112 #[.slice A l.length c] w fun e w' => ∃ m x : Int, e = .returned (.tuple #[.int .i64 m, .int .i64 x]) ∧ (m = 0 ∨ m ≠ l.length) ∧ Below w.heap.size w w' from HW.out.mono fun e w' ⟨m, x, h1, h2, h3⟩ => ⟨m, x, h1, by
      by_cases g : m = 0
      · exact .inl g
      · exact .inr (fun g2 => hs (h2.2 ⟨g, g2⟩)), h3⟩)
    clear hs hl HW
    go_enter Tryz.func74, Tryz.ntmps74
    go_wp2_with (go_at_call 112; go_must ((with_reducible refine HW2.out.mono ?_); intro e w1 hq; obtain ⟨m, x, rfl, hm, hb⟩ := hq; have HB := Lib.hid hb; clear hb))
    all_goals first
      | (go_ret; exact ret_below HE.out.symm HB.out)
      | (go_wp2; go_ret; exact ret_below HE.out.symm HB.out)
      | (exfalso; rename_i h1 h2; have h3 : m = l.length := (by simpa using h2.2); omega)
end Go.Proofs.YtebgmfjgapmpfaaGreatDoor
