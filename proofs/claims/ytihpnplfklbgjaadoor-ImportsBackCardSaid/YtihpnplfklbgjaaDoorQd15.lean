/- The walk of ExportsBack. -/
import Derived.Test.YtihpnplfklbgjaaDoorQd14
import Derived.Test.YtihpnplfklbgjaaDoorQd13
import Derived.ProofKit
import Derived.OpenShut
import Derived.ShutString
import Derived.ChangeOld
import Derived.ChangeSame
import Derived.Deep.Slices
import Derived.Deep.Fields
import Derived.Lib.SmallJoins
import Derived.Test.YtihpnplfklbgjaaDoorQd08
import Derived.OwnWalk
import Derived.Test.YtihpnplfklbgjaaDoorQd06
namespace Go.Proofs.YtihpnplfklbgjaaDoor
open Go.RowKit
set_option linter.unusedVariables false
set_option maxRecDepth 100000

theorem takeE_one {l : List Ex} {k : Nat} {x : Ex} (h : l[k]? = some x) : l.take (k + 1) = l.take k ++ [x] := by rw [List.take_add_one, h]; rfl
/-- What the law keeps once the list is read. -/
structure BKE (w : World) (l : List Ex) (base : Nat) (A2 : Option Addr) (c2 : Nat) (B : Nat) (Ab : Option Addr) (y : List UInt8) (W : World) : Prop where
  bel : Below w.heap.size w W
  r : RowE W base (.slice A2 l.length c2) l
  ly : Lies W B Ab (cells (nums y))
  o : B ≤ W.heap.size
theorem BKE.grown {w W W' : World} {l : List Ex} {base B c2 q : Nat} {A2 Ab : Option Addr} {y : List UInt8} (h : BKE w l base A2 c2 B Ab y W) (hg : W.grownBy W' (some q)) (h1 : w.heap.size ≤ q) (h2 : q < base) (h3 : B ≤ q) : BKE w l base A2 c2 B Ab y W' :=
  ⟨below_new h.bel hg h1, h.r.past hg h2, h.ly.grown hg h.o (fun g e => by injection e with e; omega), Nat.le_trans h.o hg.size⟩
theorem BKE.below {w W W' : World} {l : List Ex} {base B c2 : Nat} {A2 Ab : Option Addr} {y : List UInt8} (h : BKE w l base A2 c2 B Ab y W) (hb : Below W.heap.size W W') : BKE w l base A2 c2 B Ab y W' :=
  ⟨h.bel.trans (hb.mono h.bel.size), h.r.later hb, h.ly.below hb h.o, Nat.le_trans h.o hb.size⟩
/-- One of the input's and the one that was read, as a walk reads them; both lists. -/
abbrev TwoEx (w : World) (A A2 : Option Addr) (l : List Ex) (b off b2 off2 k : Nat) (x : Ex) (W : World) : Prop := (Below w.heap.size w W ∧ Exs W A l ∧ Exs W A2 l) ∧
  (W.cell? ⟨b, off + k * 3, none⟩ = some (.string (S x.nam)) ∧ W.cell? ⟨b, off + k * 3 + 1, none⟩ = some (.int .u8 x.kind.toNat) ∧ W.cell? ⟨b, off + k * 3 + 2, none⟩ = some (.int .u32 x.idx.toNat)) ∧
  (W.cell? ⟨b2, off2 + k * 3, none⟩ = some (.string (S x.nam)) ∧ W.cell? ⟨b2, off2 + k * 3 + 1, none⟩ = some (.int .u8 x.kind.toNat) ∧ W.cell? ⟨b2, off2 + k * 3 + 2, none⟩ = some (.int .u32 x.idx.toNat))
section
variable {w W W' : World} {A A2 : Option Addr} {l : List Ex} {b off b2 off2 k : Nat} {x : Ex}
theorem exTwo_of (h1 : Below w.heap.size w W) (h2 : Exs W A l) (h3 : Exs W A2 l) (hA : A = some ⟨b, off, none⟩) (hA2 : A2 = some ⟨b2, off2, none⟩) (hx : l[k]? = some x) : TwoEx w A A2 l b off b2 off2 k x W := by
  obtain ⟨c1, o1, e1, _, p⟩ := h2.three hx
  obtain ⟨c2, o2, e2, _, q⟩ := h3.three hx
  rw [hA] at e1
  rw [hA2] at e2
  injection e1 with e1
  injection e2 with e2
  injection e1 with a1 a2
  injection e2 with a3 a4
  subst a1; subst a2; subst a3; subst a4
  exact ⟨⟨h1, h2, h3⟩, p, q⟩
theorem exTwo_on (h : TwoEx w A A2 l b off b2 off2 k x W) (hA : A = some ⟨b, off, none⟩) (hA2 : A2 = some ⟨b2, off2, none⟩) (hx : l[k]? = some x) (hb : Below W.heap.size W W') : TwoEx w A A2 l b off b2 off2 k x W' :=
  exTwo_of (h.1.1.trans (hb.mono h.1.1.size)) (h.1.2.1.below hb) (h.1.2.2.below hb) hA hA2 hx
end
set_option maxHeartbeats 8000000 in
theorem lawXB {w : World} {A : Option Addr} {c : Nat} {l : List Ex} (hl : Exs w A l) (hT : TabsU w) (nl : (l.length : Int) ≤ 9223372036854775807) :
    Calls Tryd.prog 6 #[.slice A l.length c] w fun e w' => e = .returned (.bool true) ∧ Below w.heap.size w w' := by
  have HAW := Lib.hid (awake_ex w hT)
  have HL := Lib.hid hl
  have HTw := Lib.hid hT
  clear hl hT
  by_cases g1 : 20 < l.length
  · have t1 : decide ((20 : Int) < (l.length : Int)) = true := decide_eq_true (by omega)
    clear g1
    go_enter Tryd.func6, Tryd.ntmps6
    go_wp2_with (go_at_call 27; go_must ((with_reducible refine HAW.out.mono ?_); rintro e w1 ⟨rfl, hb⟩; have H1 := Lib.hid hb; clear hb))
    go_ret
    exact ⟨rfl, H1.out⟩
  have t1 : decide ((20 : Int) < (l.length : Int)) = false := decide_eq_false (by omega)
  have HRC := Lib.hid (fun W => rcount_ex l.length W (by omega))
  have hlb := lebL_len (l.length : Int) (by omega)
  obtain ⟨hd, hhd⟩ : ∃ hd, hd = lebL (l.length : Int) := ⟨_, rfl⟩
  rw [← hhd] at HRC hlb
  have HAL := Lib.hid (show allE l = hd ++ eputsL l by rw [hhd]; rfl)
  obtain ⟨n, hn⟩ : ∃ n, n = l.length := ⟨_, rfl⟩
  have HN := Lib.hid hn
  have HE := Lib.hid (show l.take n = l by rw [hn, List.take_length])
  have h20 : n ≤ 20 := by omega
  rw [← hn] at t1 HRC ⊢
  clear hn hhd g1 nl
  unfold Strs at HRC
  go_enter Tryd.func6, Tryd.ntmps6
  go_wp2_with (first
    | (go_at_call 27; go_must ((with_reducible refine HAW.out.mono ?_); rintro e w1 ⟨rfl, hb⟩; have H1 := Lib.hid hb; clear hb))
    | (go_at_call 28; go_must ((with_reducible refine (HRC.out _).mono ?_); rintro e w2 ⟨rfl, hb⟩; have H2 := Lib.hid (H1.out.trans (hb.mono H1.out.size)); clear hb)))
  go_loopw [3, 4, 5] (fun code want i wr => ∃ (k : Nat) (t : List UInt8), k ≤ n ∧ i = .int .i64 k ∧ code = .int .i64 (errE (l.take k)) ∧ want = .string (S t) ∧ t.length ≤ 10 + k * 421 ∧ (errE (l.take k) = 0 → t = hd ++ eputsL (l.take k)) ∧ ShortE (l.take k) ∧ Below w.heap.size w wr) (fun _ _ i _ => n - (intOf i).toNat)
  case atStart => exact ⟨0, hd, Nat.zero_le _, rfl, rfl, rfl, by omega, (fun _ => by simp [eputsL]), (fun x hx => by cases hx), H2.out⟩
  case round =>
    obtain ⟨k, t, hk, rfl, rfl, rfl, htl, htb, hsh, hb⟩ := hrel
    have hz1 := hb.size
    by_cases hlt : k < n
    · obtain ⟨x, hx⟩ : ∃ x, l[k]? = some x := ⟨_, List.getElem?_eq_getElem (by rw [← HN.out]; exact hlt)⟩
      obtain ⟨b, off, rfl, hbl, m0, m1, m2⟩ := (HL.out.below hb).three hx
      have s2 := S_size x.nam
      have HBA := Lib.hid (hb.alloc hz1 (.cells (exC x) 64))
      have hstep := errE_snoc hx
      have hpsn := eputsL_snoc hx
      by_cases b2 : 400 < x.nam.length
      · have t3 : decide ((400 : Int) < (x.nam.length : Int)) = true := decide_eq_true (by omega)
        clear b2 htb hsh hb hx hstep hpsn htl
        go_wp2
        go_ret
        exact ⟨rfl, HBA.out⟩
      have t3 : decide ((400 : Int) < (x.nam.length : Int)) = false := decide_eq_false (by omega)
      have HSH : Hid (ShortE (l.take (k + 1))) := Lib.hid fun q hq => by
        rw [takeE_one hx] at hq
        rcases List.mem_append.1 hq with hq | hq
        · exact hsh q hq
        · rw [List.mem_singleton] at hq; subst hq; omega
      have hil := exputL_len (x := x) (n := 400) (by omega) (by omega)
      have HRR := Lib.hid (rright_ex x (wr.alloc (.cells (exC x) 64)) (by omega))
      have HRP := Lib.hid (fun W => rput_ex x W (by omega))
      have HW := Lib.hid (Whole.made wr 64 (exC x))
      unfold Strs at HRP
      by_cases e0 : errE (l.take k) = 0
      · rw [if_neg (by simpa using e0)] at hstep
        have ht := htb e0
        have d0 : (errE (l.take k) == 0) = true := by simpa using e0
        obtain ⟨q, hq⟩ : ∃ q, q = errE (l.take k) := ⟨_, rfl⟩
        rw [← hq] at d0 ⊢
        by_cases z0 : rE x = 0
        · rw [z0] at HRR hstep
          have HSTEP := Lib.hid hstep
          have HTT := Lib.hid ht
          have HPS := Lib.hid hpsn
          obtain ⟨y, hy⟩ : ∃ y, y = exputL x := ⟨_, rfl⟩
          rw [← hy] at HRP hil HPS
          have st := S_size t
          have sy := S_size y
          have q1 : ¬ 9223372036854775807 < (S t).size + (S y).size := by omega
          clear b2 htb hsh hb hx hstep hpsn e0 hq ht hy z0 st sy
          go_wp2_with (first
            | (go_at_call 29; go_must ((with_reducible refine HRR.out.mono ?_); rintro e w3 ⟨rfl, hb⟩; have H3 := Lib.hid (HBA.out.trans (hb.mono HBA.out.size)); obtain ⟨c0, c1, c2⟩ := (HW.out.below hb).ex; clear hb))
            | (go_at_call 30; go_must ((with_reducible refine (HRP.out _).mono ?_); rintro e w4 ⟨rfl, hb⟩; have H4 := Lib.hid (H3.out.trans (hb.mono H3.out.size)); clear hb)))
          go_roundw
          case rel => exact ⟨k + 1, t ++ y, by omega, by go_num, by rw [HSTEP.out], by rw [S_append], by rw [List.length_append]; omega, fun _ => by rw [HPS.out, HTT.out, List.append_assoc], HSH.out, H4.out⟩
          case measure => simp [intOf]; omega
        · have HSTEP := Lib.hid hstep
          have HZN := Lib.hid z0
          have d1 : (rE x == 0) = false := by simpa using z0
          obtain ⟨z, hz⟩ : ∃ z, z = rE x := ⟨_, rfl⟩
          rw [← hz] at HRR HSTEP HZN d1
          clear b2 htb hsh hb hx hstep hpsn e0 hq ht z0 hz HRP
          go_wp2_with (go_at_call 29; go_must ((with_reducible refine HRR.out.mono ?_); rintro e w3 ⟨rfl, hb⟩; have H3 := Lib.hid (HBA.out.trans (hb.mono HBA.out.size)); clear hb))
          go_roundw
          case rel => exact ⟨k + 1, t, by omega, by go_num, by rw [HSTEP.out], rfl, by omega, fun e => absurd (HSTEP.out.symm.trans e) HZN.out, HSH.out, H3.out⟩
          case measure => simp [intOf]; omega
      · rw [if_pos e0] at hstep
        have HSTEP := Lib.hid hstep
        have HCN := Lib.hid e0
        have d0 : (errE (l.take k) == 0) = false := by simpa using e0
        obtain ⟨q, hq⟩ : ∃ q, q = errE (l.take k) := ⟨_, rfl⟩
        rw [← hq] at d0 HSTEP HCN ⊢
        clear b2 htb hsh hb hx hstep hpsn e0 hq HRP HRR
        go_wp2
        go_roundw
        case rel => exact ⟨k + 1, t, by omega, by go_num, by rw [HSTEP.out], rfl, by omega, fun e => absurd (HSTEP.out.symm.trans e) HCN.out, HSH.out, HBA.out⟩
        case measure => simp [intOf]; omega
    · obtain rfl : k = n := by omega
      rw [HE.out] at htb hsh ⊢
      have HB := Lib.hid hb
      have hpa := putall_ex (c := c) (HL.out.below hb) (HTw.out.below hb) hsh (by rw [← HN.out]; omega)
      rw [← HN.out] at hpa
      unfold PuttedAllE at hpa
      by_cases e0 : errE l = 0
      · have ht := (htb e0).trans HAL.out.symm
        rw [if_pos e0, e0] at hpa
        have HGA := Lib.hid (fun W p (h : Sc W p (allE l) 0) (hT : TbN p W) => getall_ex h hT rfl e0 (by rw [← HN.out]; omega))
        rw [e0]
        have htl2 : (allE l).length ≤ 1000000 := by rw [← ht]; omega
        rw [ht]
        obtain ⟨y, hy⟩ : ∃ y, y = allE l := ⟨_, rfl⟩
        rw [← hy] at hpa HGA htl2 ⊢
        have HPA := Lib.hid hpa
        clear hpa htb hsh hb e0 ht hy htl hlt
        go_upto_region 20 with (first
          | (go_at_call 31; go_must ((with_reducible refine HPA.out.mono ?_); intro e w3 hq; obtain ⟨v, rfl, hr, hb⟩ := hq; obtain ⟨Ab, cb, rfl, hpc⟩ := hr.pc; have H3 := Lib.hid (HB.out.trans (hb.mono HB.out.size)); have HP3 := Lib.hid hpc; clear hb hr hpc))
          | (go_at_call 12; go_must ((with_reducible refine (over_all HP3.out.lies htl2).mono ?_); intro e w7 hq; obtain ⟨p, rfl, hpp, hs, hb⟩ := hq; have HS7 := Lib.hid hs; have HB37 := Lib.hid hb; have HB7 := Lib.hid (H3.out.trans (hb.mono H3.out.size)); clear hs hb)))
        have h7p := HS7.out.lt
        have h3z := H3.out.size
        have HS8 := Lib.hid (HS7.out.alloc (.cells #[.pointer (some ⟨p, 0, none⟩)] 34))
        have HPT := Lib.hid (Whole.made w7 34 #[.pointer (some ⟨p, 0, none⟩)])
        have HB8 := Lib.hid (HB7.out.trans ((below_box w7 (.cells #[.pointer (some ⟨p, 0, none⟩)] 34)).mono HB7.out.size))
        have HL8 := Lib.hid (HP3.out.lies.below (HB37.out.trans ((below_box w7 (.cells #[.pointer (some ⟨p, 0, none⟩)] 34)).mono HB37.out.size)) (Nat.le_refl _))
        have h8 : w3.heap.size ≤ (w7.alloc (.cells #[.pointer (some ⟨p, 0, none⟩)] 34)).heap.size := Nat.le_trans HB37.out.size (below_box w7 _).size
        have h87 : w7.heap.size < (w7.alloc (.cells #[.pointer (some ⟨p, 0, none⟩)] 34)).heap.size := HPT.out.lt
        clear HAW H1 H2 HB HPA H3 HP3 HB37 HB7 HS7
        generalize w7.alloc (.cells #[.pointer (some ⟨p, 0, none⟩)] 34) = W8 at *
        generalize w7.heap.size = b6 at *
        have HV := Lib.hid (valueY_ok (T := fun v W => v.2.1 = l.length ∧ BKE w l (W8.heap.size + 4) v.1 v.2.2 w3.heap.size Ab y W) (cfE2 #[.pointer (some ⟨b6, 0, none⟩)]) (q := p) (w := W8) (by omega)
          (fun q W W' b h1 h2 h3 hg => ⟨h3.1, h3.2.grown hg (by omega) (by omega) (by omega)⟩)
          (fun W hb hsz => by
            have hS := HS8.out.below hb
            have hB := HB8.out.trans (hb.mono HB8.out.size)
            refine (closE2 (p := p) (l := y) (xs := l) (HPT.out.below hb) (HGA.out W p hS (TbN.of HTw.out hB (by omega) (Nat.le_of_lt hS.lt)))).mono ?_
            rintro e w' ⟨v, rfl, hr, hs, hg⟩
            obtain ⟨A2, c2, rfl⟩ := hr.slice
            exact ⟨(A2, l.length, c2), rfl, ⟨rfl, below_new hB hg (by omega), hr.mono hsz, (HL8.out.below hb h8).grown hg (Nat.le_trans h8 hb.size) (fun g e => by injection e with e; omega), Nat.le_trans h8 (Nat.le_trans hb.size hg.size)⟩, hg⟩))
        clear HGA HS8 HPT HL8
        go_upto_region 21 with (go_at_call 32; go_must ((with_reducible refine HV.out.mono ?_); rintro e w9 ⟨⟨A2, n2, c2⟩, rfl, ⟨hn2, hbk⟩, hg⟩; have HN2 := Lib.hid hn2; clear hn2; have HBK := Lib.hid (hbk.below (below_box w9 (.cells #[.int .i64 0, .int .i64 0] 37))); have k0 := (Whole.made w9 37 #[.int .i64 0, .int .i64 0]).cell 0; clear hbk hg))
        simp only [List.getElem?_toArray, List.getElem?_cons_zero] at k0
        have hn3 : n2 = k := HN2.out.trans HN.out.symm
        clear HN2
        subst hn3
        generalize w9.alloc (.cells #[.int .i64 0, .int .i64 0] 37) = W10 at *
        have hcv := str_any HBK.out.ly cb 9 Tryd.underlying9
        have HI := Lib.hid (HL.out.below HBK.out.bel)
        have HJ := Lib.hid HBK.out.r.exs
        have HSm := Lib.hid (fun x W => show Calls Tryd.prog 35 #[exV x, exV x] W fun e w' => e = .returned (.bool true) ∧ Below W.heap.size W w' from by have h2 := refSame_ex x x W; rw [decide_eq_true rfl] at h2; exact h2)
        clear HV HB8
        go_wp2
        clear hcv k0
        go_loopw [12] (fun i wr => ∃ j : Nat, j ≤ n2 ∧ i = .int .i64 j ∧ Below w.heap.size w wr ∧ Exs wr A l ∧ Exs wr A2 l) (fun i _ => n2 - (intOf i).toNat)
        case atStart => exact ⟨0, Nat.zero_le _, rfl, HBK.out.bel, HI.out, HJ.out⟩
        case round =>
          obtain ⟨j, hj, rfl, hb, hi, hjj⟩ := hrel
          by_cases hlt : j < n2
          · obtain ⟨x, hx⟩ : ∃ x, l[j]? = some x := ⟨_, List.getElem?_eq_getElem (by rw [← HN.out]; exact hlt)⟩
            obtain ⟨b, off, hA, _⟩ := hi.three hx
            obtain ⟨b2, off2, hA2, _⟩ := hjj.three hx
            have hS0 := exTwo_of hb hi hjj hA hA2 hx
            have HS0 := Lib.hid (exTwo_on hS0 hA hA2 hx (Below.refl _ _).drew)
            have HON := Lib.hid (fun W W' (h : TwoEx w A A2 l b off b2 off2 j x W) (hb : Below W.heap.size W W') => exTwo_on h hA hA2 hx hb)
            subst hA; subst hA2
            clear hx hb hi hjj hS0
            go_upto_region 26 with fail
            refine wp_region_noPanic ?_
            refine wp_region_held_drew (S := fun W => TwoEx w (some ⟨b, off, none⟩) (some ⟨b2, off2, none⟩) l b off b2 off2 j x W) (by kernel_rfl) HS0.out (fun hHeld => ?_)
            (refine heldTake (i := 0) (oi := { dst := some 93, op := Op.move (Operand.tmp 10), type := 62, pos := "law.go:96", after := #[], guard := none }) (v := ?_) rfl (by kernel_rfl) (by kernel_rfl) (by kernel_rfl) (by assumption) ?_ ?_; rotate_left; focus (refine .inl ⟨by kernel_rfl, ?_⟩; intro w hSw; (try dsimp only at hSw); go_simp; (try with_reducible rfl)); (try simp only [Act.put, List.setIfInBounds_toArray, List.set_cons_zero, List.set_cons_succ]))
            (refine heldTake (i := 1) (oi := { dst := some 94, op := Op.move (Operand.tmp 12), type := 3, pos := "law.go:96", after := #[], guard := none }) (v := ?_) rfl (by kernel_rfl) (by kernel_rfl) (by kernel_rfl) (by assumption) ?_ ?_; rotate_left; focus (refine .inl ⟨by kernel_rfl, ?_⟩; intro w hSw; (try dsimp only at hSw); go_simp; (try with_reducible rfl)); (try simp only [Act.put, List.setIfInBounds_toArray, List.set_cons_zero, List.set_cons_succ]))
            (refine heldTake (i := 2) (oi := { dst := some 95, op := Op.indexAddr 62 (Operand.tmp 93) (Operand.tmp 94), type := 0, pos := "law.go:96", after := #[{ on := 0, ground := Ground.data }, { on := 1, ground := Ground.data }], guard := none }) (v := ?_) rfl (by kernel_rfl) (by kernel_rfl) (by kernel_rfl) (by assumption) ?_ ?_; rotate_left; focus (refine .inl ⟨by kernel_rfl, ?_⟩; intro w hSw; (try dsimp only at hSw); go_simp; (try with_reducible rfl)); (try simp only [Act.put, List.setIfInBounds_toArray, List.set_cons_zero, List.set_cons_succ]))
            (refine heldTake (i := 3) (oi := { dst := some 96, op := Op.load 64 (Operand.tmp 95), type := 64, pos := "law.go:96", after := #[{ on := 2, ground := Ground.data }], guard := none }) (v := ?_) rfl (by kernel_rfl) (by kernel_rfl) (by kernel_rfl) (by assumption) ?_ ?_; rotate_left; focus (refine .inl ⟨by kernel_rfl, ?_⟩; intro w hSw; (try dsimp only at hSw); go_simp; (try with_reducible rfl)); (try simp only [Act.put, List.setIfInBounds_toArray, List.set_cons_zero, List.set_cons_succ]))
            (refine heldTake (i := 4) (oi := { dst := some 97, op := Op.move (Operand.tmp 0), type := 62, pos := "law.go:96", after := #[], guard := none }) (v := ?_) rfl (by kernel_rfl) (by kernel_rfl) (by kernel_rfl) (by assumption) ?_ ?_; rotate_left; focus (refine .inl ⟨by kernel_rfl, ?_⟩; intro w hSw; (try dsimp only at hSw); go_simp; (try with_reducible rfl)); (try simp only [Act.put, List.setIfInBounds_toArray, List.set_cons_zero, List.set_cons_succ]))
            (refine heldTake (i := 5) (oi := { dst := some 98, op := Op.move (Operand.tmp 12), type := 3, pos := "law.go:96", after := #[], guard := none }) (v := ?_) rfl (by kernel_rfl) (by kernel_rfl) (by kernel_rfl) (by assumption) ?_ ?_; rotate_left; focus (refine .inl ⟨by kernel_rfl, ?_⟩; intro w hSw; (try dsimp only at hSw); go_simp; (try with_reducible rfl)); (try simp only [Act.put, List.setIfInBounds_toArray, List.set_cons_zero, List.set_cons_succ]))
            (refine heldTake (i := 6) (oi := { dst := some 99, op := Op.indexAddr 62 (Operand.tmp 97) (Operand.tmp 98), type := 0, pos := "law.go:96", after := #[{ on := 4, ground := Ground.data }, { on := 5, ground := Ground.data }], guard := none }) (v := ?_) rfl (by kernel_rfl) (by kernel_rfl) (by kernel_rfl) (by assumption) ?_ ?_; rotate_left; focus (refine .inl ⟨by kernel_rfl, ?_⟩; intro w hSw; (try dsimp only at hSw); go_simp; (try with_reducible rfl)); (try simp only [Act.put, List.setIfInBounds_toArray, List.set_cons_zero, List.set_cons_succ]))
            (refine heldTake (i := 7) (oi := { dst := some 100, op := Op.load 64 (Operand.tmp 99), type := 64, pos := "law.go:96", after := #[{ on := 6, ground := Ground.data }], guard := none }) (v := ?_) rfl (by kernel_rfl) (by kernel_rfl) (by kernel_rfl) (by assumption) ?_ ?_; rotate_left; focus (refine .inl ⟨by kernel_rfl, ?_⟩; intro w hSw; (try dsimp only at hSw); go_simp; (try with_reducible rfl)); (try simp only [Act.put, List.setIfInBounds_toArray, List.set_cons_zero, List.set_cons_succ]))
            refine wpAnyH_ready (rs := [8]) (by kernel_rfl) (by simp) ?_
            refine AllReadyH.cons (o := { dst := some 101, op := Op.call { callee := Callee.value (Operand.func 35), args := #[Operand.tmp 96, Operand.tmp 100], argTypes := #[64, 64] }, type := 4, pos := "law.go:96", after := #[{ on := 3, ground := Ground.data }, { on := 7, ground := Ground.data }], guard := none }) rfl (fun K hK => ?_) AllReadyH.nil
            go_simp
            (go_at_call 35; (with_reducible refine (HSm.out x _).mono ?_); rintro e w11 ⟨rfl, hb⟩; have hk11 := HON.out _ _ hHeld hb; clear hb)
            refine hK.out _ _ hk11 (fun hHeld8 => ?_)
            clear hK K hHeld
            (try simp only [Act.put, List.setIfInBounds_toArray, List.set_cons_zero, List.set_cons_succ])
            (refine heldTake (i := 9) (oi := { dst := some 102, op := Op.unOp UnOp.not 4 (Operand.tmp 101), type := 4, pos := "law.go:96", after := #[{ on := 8, ground := Ground.data }], guard := none }) (v := ?_) rfl (by kernel_rfl) (by kernel_rfl) (by kernel_rfl) (by assumption) ?_ ?_; rotate_left; focus (refine .inl ⟨by kernel_rfl, ?_⟩; intro w hSw; (try dsimp only at hSw); go_simp; (try with_reducible rfl)); (try simp only [Act.put, List.setIfInBounds_toArray, List.set_cons_zero, List.set_cons_succ]))
            refine wpAnyH_done (by kernel_rfl) ?_ _
            refine NoPanic.normal ?_
            have hLast := hHeld8
            clear hHeld8
            obtain ⟨⟨hb3, hi3, hj3⟩, _⟩ := hLast
            have HB3 := Lib.hid hb3
            have HI3 := Lib.hid hi3
            have HJ3 := Lib.hid hj3
            clear hb3 hi3 hj3
            go_wp2
            go_roundw
            case rel => exact ⟨j + 1, by omega, by go_num, HB3.out, HI3.out, HJ3.out⟩
            case measure => simp [intOf]; omega
          · obtain rfl : j = n2 := by omega
            have HB3 := Lib.hid hb
            clear hb hi hjj
            go_wp2
            go_ret
            exact ⟨rfl, HB3.out⟩
      · rw [if_neg e0] at hpa
        have d0 : (errE l != 0) = true := zb_of (by simpa using e0)
        obtain ⟨z, hz⟩ : ∃ z, z = errE l := ⟨_, rfl⟩
        rw [← hz] at hpa d0 ⊢
        have HPA := Lib.hid hpa
        clear hpa htb hsh hb e0 hz hlt
        go_wp2_with (go_at_call 31; go_must ((with_reducible refine HPA.out.mono ?_); intro e w3 hq; obtain ⟨v, rfl, hr, hb⟩ := hq; obtain ⟨Ab, cb, rfl, _⟩ := hr.pc; have H3 := Lib.hid (HB.out.trans (hb.mono HB.out.size)); clear hb hr))
        go_ret
        exact ⟨rfl, H3.out⟩
end Go.Proofs.YtihpnplfklbgjaaDoor

/- An export by value and a slice of exports, opened. -/
namespace Go.Proofs.YtihpnplfklbgjaaDoor
open Go.ChangeShapes Go.WideShapes Go.ChangeAt Go.RowKit Go.Joins Go.Deep
set_option linter.unusedVariables false
set_option maxRecDepth 100000

theorem cellsExp : Tryd.prog.cellsOf 64 = 3 := by kernel_rfl
section
variable {H : Type} {enc : TypeId × Value → H} {W : World} {sp : Nat → Bool}
/-- Three cells of an export. -/
theorem open_exp {n : Nat} {cs : List Value} {x : DataW H × List MemPlace} (h : DataW.trod enc Tryd.prog W 0 sp true n 64 cs = some x) (hc : cs.length = 3) : ∃ i : Ex, cs = exL i ∧ i.nam.length ≤ maxLen := by
  obtain ⟨ys, m, _, hy, hlen, hyl, hf⟩ := DataW.trod_struct Tryd.underlying64 h
  match cs, hc with
  | [c0, c1, c2], _ =>
    match ys, hyl with
    | [y0, y1, y2], _ =>
      have e1 : Tryd.prog.cellsOf 9 = 1 := by kernel_rfl
      have e2 : Tryd.prog.cellsOf 5 = 1 := by kernel_rfl
      have e3 : Tryd.prog.cellsOf 22 = 1 := by kernel_rfl
      have h0 : DataW.trod enc Tryd.prog W 0 sp true m 9 (([c0, c1, c2].drop 0).take (Tryd.prog.cellsOf 9)) = some y0 := hf 0 _ rfl
      have h1 : DataW.trod enc Tryd.prog W 0 sp true m 5 (([c0, c1, c2].drop 1).take (Tryd.prog.cellsOf 5)) = some y1 := hf 1 _ rfl
      have h2 : DataW.trod enc Tryd.prog W 0 sp true m 22 (([c0, c1, c2].drop 2).take (Tryd.prog.cellsOf 22)) = some y2 := hf 2 _ rfl
      rw [e1] at h0
      rw [e2] at h1
      rw [e3] at h2
      obtain ⟨s0, q0, _, ws0⟩ := DataW.trod_string Tryd.underlying9 h0
      obtain ⟨x1, q1, _, w1⟩ := DataW.trod_int Tryd.underlying5 h1
      obtain ⟨x2, q2, _, w2⟩ := DataW.trod_int Tryd.underlying22 h2
      obtain ⟨k, rfl⟩ := u8_ex w1
      obtain ⟨t, rfl⟩ := u32_ex w2
      have q0' : c0 = .string s0 := by simpa using q0
      have q1' : c1 = .int .u8 k.toNat := by simpa using q1
      have q2' : c2 = .int .u32 t.toNat := by simpa using q2
      exact ⟨⟨s0.data.toList, k, t⟩, by unfold exL exC; rw [S_of, q0', q1', q2'], by show s0.data.toList.length ≤ maxLen; rw [Array.length_toList]; exact ws0⟩
theorem open_ex {b0 : Nat} {r : Reach} {v : Value} {d : DataW H} {p : List MemPlace} (hv : Value.okWide Tryd.prog W r b0 64 v) (h : DataW.Trod enc Tryd.prog W 0 sp true 64 v d p) : ∃ i : Ex, v = exV i := by
  obtain ⟨cs, rfl, hsz⟩ := okWide_struct Tryd.underlying64 hv
  rw [cellsExp] at hsz
  obtain ⟨fuel, hf⟩ := h
  obtain ⟨i, hi, _⟩ := open_exp (cs := cs.toList) (by simpa [Value.cells] using hf) (by simpa using hsz)
  exact ⟨i, by show Value.agg cs = .agg (exC i); congr 1; apply Array.toList_inj.1; exact hi⟩
theorem open_exs {A : Option Addr} {len cap : Nat} {d : DataW H} {p : List MemPlace} (h : DataW.Trod enc Tryd.prog W 0 sp true 62 (.slice A len cap) d p) :
    ∃ l : List Ex, l.length = len ∧ Exs W A l ∧ (l.length : Int) ≤ 9223372036854775807 ∧ ∀ x ∈ l, x.nam.length ≤ maxLen := by
  obtain ⟨fuel, hf⟩ := h
  rcases open_slice Tryd.underlying62 hf with ⟨hcs, _⟩ | ⟨a, ln, cp, m, n, D, Pl, hcs, hb, hl, hm, hmm, hx, hi⟩
  · simp [Value.cells] at hcs
    obtain ⟨rfl, rfl, rfl⟩ := hcs
    exact ⟨[], rfl, (fun j i hi => by cases hi), by simp, fun x hx => by cases hx⟩
  · simp [Value.cells] at hcs
    obtain ⟨rfl, rfl, rfl⟩ := hcs
    have hlm : len ≤ m := by rw [hmm]; split <;> omega
    have each : ∀ j, j < len → ∃ i : Ex, (∀ u, u < 3 → W.cell? ((a.add (j * 3)).add u) = (exL i)[u]?) ∧ i.nam.length ≤ maxLen := by
      intro j hj
      obtain ⟨cs', hc, ht'⟩ := hi j (by omega)
      rw [cellsExp] at hc
      obtain ⟨_, hcl, hat⟩ := World.cells?_some hc
      obtain ⟨i, rfl, hw⟩ := open_exp ht' hcl
      exact ⟨i, fun u hu => hat u (by omega), hw⟩
    have pick : ∀ k, k ≤ len → ∃ l : List Ex, l.length = k ∧ (∀ (j : Nat) (i : Ex), l[j]? = some i → ∀ u, u < 3 → W.cell? ((a.add (j * 3)).add u) = (exL i)[u]?) ∧ ∀ x ∈ l, x.nam.length ≤ maxLen := by
      intro k
      induction k with
      | zero => intro _; exact ⟨[], rfl, (fun j i hi => by cases hi), fun x hx => by cases hx⟩
      | succ k ih =>
        intro hk
        obtain ⟨l, hl1, hl2, hl3⟩ := ih (by omega)
        obtain ⟨i, hq, hw⟩ := each k (by omega)
        refine ⟨l ++ [i], by simp [hl1], fun j i' hi' => ?_, fun x hx => (List.mem_append.1 hx).elim (hl3 x) (fun h => by rw [List.mem_singleton] at h; subst h; exact hw)⟩
        rcases Nat.lt_or_ge j k with g | g
        · rw [List.getElem?_append_left (by omega)] at hi'
          exact hl2 j i' hi'
        · have hj : j < (l ++ [i]).length := (List.getElem?_eq_some_iff.1 hi').1
          rw [List.length_append, List.length_singleton] at hj
          obtain rfl : j = k := by omega
          rw [List.getElem?_append_right (by omega), hl1, Nat.sub_self] at hi'
          injection hi' with hi'
          subst hi'
          exact hq
    obtain ⟨l, hl1, hl2, hl3⟩ := pick len (Nat.le_refl _)
    unfold maxLen at hm
    refine ⟨l, hl1, fun j i hij => ?_, by omega, hl3⟩
    have q := hl2 j i hij
    have hj0 := (List.getElem?_eq_some_iff.1 hij).1
    have q00 : W.cell? ((a.add (0 * 3)).add 0) = some (.string (S (l[0]'(by omega)).nam)) := hl2 0 _ (List.getElem?_eq_getElem (by omega : 0 < l.length)) 0 (by omega)
    obtain ⟨b, off, spot⟩ := a
    have hsp : spot = none := by simpa [Addr.add] using World.cell?_spot q00
    subst hsp
    have q2 : ∀ u, u < 3 → W.cell? ⟨b, off + j * 3 + u, none⟩ = (exL i)[u]? := fun u hu => by
      have := q u hu
      rw [Go.WideShapes.add_plain, Go.WideShapes.add_plain] at this
      exact this
    have q0 : W.cell? ⟨b, off + j * 3 + 0, none⟩ = some (.string (S i.nam)) := q2 0 (by omega)
    exact ⟨b, off, rfl, block_lt_of_cell q0, q2⟩
end
end Go.Proofs.YtihpnplfklbgjaaDoor

/- Imports that lie somewhere; rows of imports of the call's own. -/
namespace Go.Proofs.YtihpnplfklbgjaaDoor
open Go.RowKit
set_option linter.unusedVariables false
set_option maxRecDepth 100000

def imL (x : Im) : List Value := (imC x).toList
theorem infoIm : (Tryd.prog.info? 52).map (fun i => (i.zero, i.size, i.bytes)) = some (some (imV imZ), 9, 56) := by kernel_rfl
/-- A row of imports of the call's own. -/
def RowM (W : World) (base : Nat) (v : Value) (rows : List Im) : Prop := W.ownsRow base 52 9 v rows.length (rows.flatMap imL)
theorem RowM.nil (W : World) (base : Nat) : RowM W base (.slice none 0 0) [] := World.ownsRow_nil W base _ 9
theorem RowM.slice {W : World} {base : Nat} {v : Value} {rows : List Im} (h : RowM W base v rows) : ∃ A c, v = .slice A rows.length c := by
  rcases h.2 with ⟨rfl, h0⟩ | ⟨g, cap, cur, rfl, _⟩
  · exact ⟨none, 0, by rw [h0]⟩
  · exact ⟨_, cap, rfl⟩
theorem RowM.past {W W' : World} {base b : Nat} {v : Value} {rows : List Im} (h : RowM W base v rows) (hg : W.grownBy W' (some b)) (hb : b < base) : RowM W' base v rows :=
  World.ownsRow.kept h hg (by
    cases hv : v.ownBlock with
    | none => exact .inl rfl
    | some k => exact .inr (by have := (World.ownsRow.lt h k hv).1; simp only [ne_eq, Option.some.injEq]; omega))
theorem RowM.later {W W' : World} {base : Nat} {v : Value} {rows : List Im} (h : RowM W base v rows) (hb : Below W.heap.size W W') : RowM W' base v rows :=
  World.ownsRow.kept h (gb_of_below none hb) (by cases v.ownBlock with
    | none => exact .inl rfl
    | some k => exact .inr (by simp))
theorem RowM.alloc {W : World} {base : Nat} {v : Value} {rows : List Im} (h : RowM W base v rows) (o : Obj) : RowM (W.alloc o) base v rows := World.ownsRow.alloc h o
theorem RowM.mono {W : World} {base base' : Nat} {v : Value} {rows : List Im} (h : RowM W base v rows) (hb : base' ≤ base) : RowM W base' v rows := by
  obtain ⟨h1, h2⟩ := h
  refine ⟨h1, ?_⟩
  rcases h2 with h2 | ⟨g, cap, cur, e, hg, r⟩
  · exact .inl h2
  · exact .inr ⟨g, cap, cur, e, Nat.le_trans hb hg, r⟩
/-- append of a new block of one import. -/
theorem rowM_new {w : World} {ops : Array Oper} {rest : List Oper} {o : Oper} {a : Act} {Q : Exit → Act → World → Prop} (hgd : o.guard = none) (s x : Operand)
    (ho : o.op = .call { callee := .builtin .append, args := #[s, x], argTypes := #[45, 45] })
    (B : Nat) (v : Value) (l : List Im) (hs : a.eval s = v) (hr : RowM w B v l) (g : Nat) (r : Im) (hx : a.eval x = .slice (some ⟨g, 0, none⟩) 1 1)
    (hg : Whole w g 52 (imC r)) (hb : l.length ≤ 10000) (hB : B ≤ w.heap.size)
    (h : ∀ v' w', RowM w' B v' (l ++ [r]) → w.grownBy w' v.ownBlock → wpList Tryd.prog ops Q rest (a.put o.dst v') w') : wpList Tryd.prog ops Q (o :: rest) a w := by
  obtain ⟨i0, hi0, hz0, hz1, hz2⟩ := info_parts infoIm
  refine wpList_append_own _ hgd s x _ ho B 52 i0 _ 9 56 Tryd.underlying45 hi0 hz0 hz1 hz2 rfl (by omega) v _ _ hs hr ⟨g, 0, none⟩ 1 1 (imL r) hx rfl ?_ ?_ (by unfold maxLen; omega) (by omega) hB (fun v' w' h2 h3 _ => h v' w' ?_ h3)
  · intro j u hu
    rw [Go.WideShapes.add_plain, Nat.zero_add, hg.cell, ← Array.getElem?_toList]
    exact hu
  · intro u hu
    unfold imL at hu
    simp only [List.mem_cons, List.not_mem_nil, or_false] at hu
    rcases hu with rfl | rfl | rfl | rfl | rfl | rfl | rfl | rfl | rfl <;> rfl
  · unfold RowM
    rw [List.length_append, List.flatMap_append]
    simpa using h2
/-- Nothing old has turned, and nothing of the row's own is lost. -/
theorem RowM.below {w W W' : World} {base : Nat} {v : Value} {rows : List Im} (h : RowM W base v rows) (hB : base ≤ W.heap.size) (hg : W.grownBy W' v.ownBlock) : Below base W W' :=
  Below.grown (Below.refl _ _) hg hB (fun k hk => (World.ownsRow.lt h k hk).1)

/-- The slice at A reads as these imports. -/
def Ims (w : World) (A : Option Addr) (l : List Im) : Prop :=
  ∀ j x, l[j]? = some x → ∃ b off, A = some ⟨b, off, none⟩ ∧ b < w.heap.size ∧ ∀ u, u < 9 → w.cell? ⟨b, off + j * 9 + u, none⟩ = (imL x)[u]?
theorem Ims.below {w w' : World} {A : Option Addr} {l : List Im} (h : Ims w A l) (hb : Below w.heap.size w w') : Ims w' A l := fun j x hx => by
  obtain ⟨b, off, e, h1, h2⟩ := h j x hx
  exact ⟨b, off, e, Nat.lt_of_lt_of_le h1 hb.size, fun u hu => (hb.cell (p := ⟨b, _, none⟩) h1).trans (h2 u hu)⟩
/-- The nine cells of one of them, as a walk writes them. -/
theorem Ims.nine {w : World} {A : Option Addr} {l : List Im} (h : Ims w A l) {k : Nat} {x : Im} (hx : l[k]? = some x) : ∃ b off, A = some ⟨b, off, none⟩ ∧ b < w.heap.size ∧
    w.cell? ⟨b, off + k * 9, none⟩ = some (.string (S x.mod)) ∧ w.cell? ⟨b, off + k * 9 + 1, none⟩ = some (.string (S x.nam)) ∧ w.cell? ⟨b, off + k * 9 + 2, none⟩ = some (.int .u8 x.kind.toNat) ∧ w.cell? ⟨b, off + k * 9 + 3, none⟩ = some (.int .u32 x.typ.toNat) ∧
    w.cell? ⟨b, off + k * 9 + 4, none⟩ = some (.int .u32 x.mn.toNat) ∧ w.cell? ⟨b, off + k * 9 + 5, none⟩ = some (.int .u32 x.mx.toNat) ∧ w.cell? ⟨b, off + k * 9 + 6, none⟩ = some (.bool x.bd) ∧ w.cell? ⟨b, off + k * 9 + 7, none⟩ = some (.int .u8 x.gt.toNat) ∧ w.cell? ⟨b, off + k * 9 + 8, none⟩ = some (.bool x.gm) := by
  obtain ⟨b, off, e, h1, h2⟩ := h k x hx
  exact ⟨b, off, e, h1, h2 0 (by omega), h2 1 (by omega), h2 2 (by omega), h2 3 (by omega), h2 4 (by omega), h2 5 (by omega), h2 6 (by omega), h2 7 (by omega), h2 8 (by omega)⟩
theorem flatM_get : ∀ (l : List Im) (j : Nat) (x : Im) (u : Nat), l[j]? = some x → u < 9 → (l.flatMap imL)[j * 9 + u]? = (imL x)[u]?
  | [], j, x, u, h, _ => by cases h
  | y :: l, 0, x, u, h, hu => by
    injection h with h
    subst h
    rw [List.flatMap_cons, Nat.zero_mul, Nat.zero_add, List.getElem?_append_left (by show u < 9; exact hu)]
  | y :: l, j + 1, x, u, h, hu => by
    rw [List.flatMap_cons, List.getElem?_append_right (by show 9 ≤ _; omega)]
    have e : (j + 1) * 9 + u - (imL y).length = j * 9 + u := by show (j + 1) * 9 + u - 9 = _; omega
    rw [e]
    exact flatM_get l j x u h hu
/-- What a row of imports reads as. -/
theorem RowM.ims {W : World} {base : Nat} {A : Option Addr} {n c : Nat} {rows : List Im} (h : RowM W base (.slice A n c) rows) : Ims W A rows := fun j x hx => by
  have hj := (List.getElem?_eq_some_iff.1 hx).1
  rcases h.2 with ⟨_, h0⟩ | ⟨g, cap, cur, e, _, hg, _, _, _, ht⟩
  · omega
  · injection e with e1 e2 e3
    exact ⟨g, 0, e1, (Array.getElem?_eq_some_iff.1 hg).1, fun u hu => by
      rw [cell_of_row W g (0 + j * 9 + u) cur _ _ hg, ← flatM_get rows j x u hx hu, ← ht, List.getElem?_take, if_pos (by omega)]
      simp⟩
end Go.Proofs.YtihpnplfklbgjaaDoor

/- scan.Table, Get: what is written is read. -/
namespace Go.Proofs.YtihpnplfklbgjaaDoor
open Go.RowKit Go.Lib
set_option linter.unusedVariables false
set_option maxRecDepth 100000

theorem table_ok {w : World} {p : Nat} {l : List UInt8} {k k1 k2 : Nat} {a b : Int} {c : Bool} (h : Sc w p l k) (h1 : tagR l k 112 = .ok () k1) (h2 : limR l k1 = .ok (a, b, c) k2) :
    Calls Tryd.prog 96 #[.pointer (some ⟨p, 0, none⟩)] w fun e w' => e = .returned (.agg #[.int .u32 a, .int .u32 b, .bool c]) ∧ Sc w' p l k2 ∧ w.grownBy w' (some p) := by
  have hlt := h.lt
  have hT := tag_scan (h.alloc (.cells #[.int .u32 0, .int .u32 0, .bool false] 48)) 112
  rw [h1] at hT
  have HT := Lib.hid hT
  have HWM := Lib.hid (Whole.made w 48 #[.int .u32 0, .int .u32 0, .bool false])
  have V1 := Lib.hid (fun W (hs : Sc W p l k1) => limits_scan hs)
  rw [h2] at V1
  clear hT h1 h2 h
  go_enter Tryd.func96, Tryd.ntmps96
  go_wp2_with (first
    | (go_at_call 120; go_must ((with_reducible refine HT.out.mono ?_); rintro e w1 ⟨rfl, hs, hg⟩; have HS := Lib.hid hs; have HG := Lib.hid hg; have HW1 := Lib.hid (HWM.out.grown hg (by simp only [ne_eq, Option.some.injEq]; omega)); clear hs hg))
    | (go_at_call 97; go_must ((with_reducible refine (V1.out _ HS.out).mono ?_); rintro e w2 ⟨rfl, hs, hg⟩; have HS2 := Lib.hid hs; have HG2 := Lib.hid hg; have HW2 := Lib.hid (HW1.out.grown hg (by simp only [ne_eq, Option.some.injEq]; omega)); have g0 := HW2.out.frozen 0; have g1 := HW2.out.frozen 1; have g2 := HW2.out.frozen 2; have k0 := HW2.out.cell 0; have k1' := HW2.out.cell 1; have k2' := HW2.out.cell 2; simp only [List.getElem?_toArray, List.getElem?_cons_zero, List.getElem?_cons_succ] at k0 k1' k2'; clear hs hg)))
  obtain ⟨hW, hG⟩ := three_put (u := .int .u32 a) (v := .int .u32 b) (s := .bool c) HW2.out
  have q0 := hW.cell 0
  have q1 := hW.cell 1
  have q2 := hW.cell 2
  simp only [List.getElem?_toArray, List.getElem?_cons_zero, List.getElem?_cons_succ] at q0 q1 q2
  have hall := gb_trans (gb_trans (gb_alloc (gb_refl w _) _) HG.out) HG2.out
  refine bodyPost_ret (v := .agg #[.int .u32 a, .int .u32 b, .bool c]) (by simp [results, Tryd.results96, go_sem, q0, q1, q2]) rfl ⟨rfl, ?_, ?_⟩
  · exact HS2.out.grown hG (by simp only [ne_eq, Option.some.injEq]; omega) (fun g e => by injection e with e; omega)
  · exact gb_put (p := ⟨w.heap.size, 2, none⟩) (gb_put (p := ⟨w.heap.size, 1, none⟩) (gb_put (p := ⟨w.heap.size, 0, none⟩) hall (.inr (Nat.le_refl _)) _) (.inr (Nat.le_refl _)) _) (.inr (Nat.le_refl _)) _
/-- What is held while an import is read: x so far. -/
structure GIn (w : World) (p : Nat) (l : List UInt8) (k : Nat) (x : Im) (W : World) : Prop where
  hp : p < w.heap.size
  sc : Sc W p l k
  tb : TbN p W
  g : w.grownBy W (some p)
  b0 : Whole W w.heap.size 52 (imC imZ)
  b1 : Whole W (w.heap.size + 1) 52 (imC x)
section
variable {w W W' : World} {p : Nat} {l : List UInt8} {k k' : Nat} {x y : Im}
theorem GIn.step (h : GIn w p l k x W) (hs : Sc W' p l k') (hg : W.grownBy W' (some p)) : GIn w p l k' x W' := by
  have hp := h.hp
  exact ⟨hp, hs, h.tb.keep hg (Nat.le_refl _), gb_trans h.g hg, h.b0.grown hg (by simp only [ne_eq, Option.some.injEq]; omega), h.b1.grown hg (by simp only [ne_eq, Option.some.injEq]; omega)⟩
theorem GIn.wrote (h : GIn w p l k x W) (hg : W.grownBy W' (some (w.heap.size + 1))) (hb : Whole W' (w.heap.size + 1) 52 (imC y)) : GIn w p l k y W' := by
  have hp := h.hp
  exact ⟨hp, h.sc.grown hg (by simp only [ne_eq, Option.some.injEq]; omega) (fun g e => by injection e with e; omega), by
    obtain ⟨⟨h1, h2⟩, h3, h4, h5⟩ := h.tb
    have key : ∀ b o, b < p → W'.cell? ⟨b, o, none⟩ = W.cell? ⟨b, o, none⟩ := fun b o hb => by
      unfold World.cell?
      rw [hg.block b (by omega) (by simp only [ne_eq, Option.some.injEq]; omega)]
    exact ⟨⟨fun c hc => (key _ _ h3).trans (h1 c hc), fun i hi => ⟨(key _ _ h4).trans (h2 i hi).1, (key _ _ h4).trans (h2 i hi).2⟩⟩, h3, h4, Nat.le_trans h5 hg.size⟩,
    gb_before h.g hg (fun g e => .inr (by injection e with e; omega)), h.b0.grown hg (by simp only [ne_eq, Option.some.injEq]; omega), hb⟩
abbrev zC : Array Value := #[.string { data := #[] }, .string { data := #[] }, .int .u8 0, .int .u32 0, .int .u32 0, .int .u32 0, .bool false, .int .u8 0, .bool false]
theorem imC_zero : imC imZ = zC := rfl
theorem GIn.start (h : Sc w p l k) (hT : TbN p w) : GIn w p l k imZ ((w.alloc (.cells zC 52)).alloc (.cells zC 52)) := by
  rw [← imC_zero]
  have h2 := Whole.made (w.alloc (.cells (imC imZ) 52)) 52 (imC imZ)
  rw [size_box] at h2
  exact ⟨h.lt, (h.alloc _).alloc _, (hT.below (below_box _ _)).below (below_box _ _), gb_alloc (gb_alloc (gb_refl _ _) _) _, (Whole.made w _ _).alloc _, h2⟩
theorem gb_put1 (w : World) (b i : Nat) (u : Value) : w.grownBy (w.setCell ⟨b, i, none⟩ u) (some b) := gb_put (p := ⟨b, i, none⟩) (gb_refl w _) (.inl rfl) u
end
/-- Get of an import of this kind. -/
def Gots (p : Nat) (l : List UInt8) (k' : Nat) (x : Im) (w : World) (e : Ending) (w' : World) : Prop := e = .returned (imV x) ∧ Sc w' p l k' ∧ w.grownBy w' (some p)
/-- The end of Get: the result is copied. -/
theorem got_end {w W : World} {p : Nat} {l : List UInt8} {k : Nat} {x : Im} (h : GIn w p l k x W) {W' : World} (hW : W' = (((((((((W.setCell ⟨w.heap.size, 0, none⟩ (.string (S x.mod))).setCell ⟨w.heap.size, 1, none⟩ (.string (S x.nam))).setCell ⟨w.heap.size, 2, none⟩ (.int .u8 x.kind.toNat)).setCell ⟨w.heap.size, 3, none⟩ (.int .u32 x.typ.toNat)).setCell ⟨w.heap.size, 4, none⟩ (.int .u32 x.mn.toNat)).setCell ⟨w.heap.size, 5, none⟩ (.int .u32 x.mx.toNat)).setCell ⟨w.heap.size, 6, none⟩ (.bool x.bd)).setCell ⟨w.heap.size, 7, none⟩ (.int .u8 x.gt.toNat)).setCell ⟨w.heap.size, 8, none⟩ (.bool x.gm))) :
    Whole W' w.heap.size 52 (imC x) ∧ Sc W' p l k ∧ w.grownBy W' (some p) := by
  subst hW
  obtain ⟨h1, h2⟩ := put9 (u0 := .string (S x.mod)) (u1 := .string (S x.nam)) (u2 := .int .u8 x.kind.toNat) (u3 := .int .u32 x.typ.toNat) (u4 := .int .u32 x.mn.toNat) (u5 := .int .u32 x.mx.toNat) (u6 := .bool x.bd) (u7 := .int .u8 x.gt.toNat) (u8 := .bool x.gm) h.b0
  have hp := h.hp
  exact ⟨h1, h.sc.grown h2 (by simp only [ne_eq, Option.some.injEq]; omega) (fun g e => by injection e with e; omega), gb_before h.g h2 (fun g e => .inr (by injection e with e; omega))⟩
set_option maxHeartbeats 4000000 in
theorem get_0 {w : World} {p : Nat} {l : List UInt8} {k k1 k2 k3 k4 : Nat} {x : Im} (h : Sc w p l k) (hT : TbN p w) (h1 : nmR l k = .ok x.mod k1) (h2 : nmR l k1 = .ok x.nam k2) (h3 : byteR l k2 = .ok x.kind k3)
    (hk : x.kind.toNat = 0) (hv : indexR l k3 = .ok (x.typ.toNat : Int) k4) (hx : x = ⟨x.mod, x.nam, x.kind, x.typ, 0, 0, false, 0, false⟩) : Calls Tryd.prog 66 #[.pointer (some ⟨p, 0, none⟩)] w (Gots p l k4 x w) := by
  have H0 := Lib.hid (GIn.start h hT)
  have hN := name_scan H0.out.sc H0.out.tb
  rw [h1] at hN
  have HN1 := Lib.hid hN
  have HN2 := Lib.hid (fun W (hs : Sc W p l k1) (hb : TbN p W) => by have := name_scan hs hb; rw [h2] at this; exact this)
  have HK := Lib.hid (fun W (hs : Sc W p l k2) => nk_ok hs h3 (by omega))
  have HV := Lib.hid (fun W (hs : Sc W p l k3) => by have := index_scan hs; rw [hv] at this; exact this)
  have d0 : ((x.kind.toNat : Int) == 0) = true := be_of (by simp; omega)
  have HX := Lib.hid hx
  obtain ⟨c0, c1, c2, c3, c4, c5, c6, c7, c8⟩ := H0.out.b1.im
  clear h hT hN h1 h2 h3 hk hv hx c0 c1 c2 c3 c4 c5 c6 c7 c8
  go_enter Tryd.func66, Tryd.ntmps66
  go_upto_region 5 with (first
    | (have tok := H3; go_at_call 95; go_must ((with_reducible refine (HK.out _ H3.out.sc).mono ?_); rintro e w5 ⟨rfl, hs, hg⟩; clear c0 f0 c1 f1 c2 f2 c3 f3 c4 f4 c5 f5 c6 f6 c7 f7 c8 f8; have H4 := Lib.hid (H3.out.step hs hg); clear hs hg; obtain ⟨c0, c1, c2, c3, c4, c5, c6, c7, c8⟩ := H4.out.b1.im; have f0 := H4.out.b1.frozen 0; have f1 := H4.out.b1.frozen 1; have f2 := H4.out.b1.frozen 2; have f3 := H4.out.b1.frozen 3; have f4 := H4.out.b1.frozen 4; have f5 := H4.out.b1.frozen 5; have f6 := H4.out.b1.frozen 6; have f7 := H4.out.b1.frozen 7; have f8 := H4.out.b1.frozen 8; have H5 := Lib.hid (H4.out.wrote (y := ⟨x.mod, x.nam, x.kind, 0, 0, 0, false, 0, false⟩) (gb_put1 w5 (w.heap.size + 1) 2 (.int .u8 x.kind.toNat)) (H4.out.b1.put 2 (.int .u8 x.kind.toNat)))))
    | (have tok := H2; go_at_call 89; go_must ((with_reducible refine (HN2.out _ H2.out.sc H2.out.tb).mono ?_); rintro e w3 ⟨rfl, hs, hg⟩; clear c0 f0 c1 f1 c2 f2 c3 f3 c4 f4 c5 f5 c6 f6 c7 f7 c8 f8; have H2b := Lib.hid (H2.out.step hs hg); clear hs hg; obtain ⟨c0, c1, c2, c3, c4, c5, c6, c7, c8⟩ := H2b.out.b1.im; have f0 := H2b.out.b1.frozen 0; have f1 := H2b.out.b1.frozen 1; have f2 := H2b.out.b1.frozen 2; have f3 := H2b.out.b1.frozen 3; have f4 := H2b.out.b1.frozen 4; have f5 := H2b.out.b1.frozen 5; have f6 := H2b.out.b1.frozen 6; have f7 := H2b.out.b1.frozen 7; have f8 := H2b.out.b1.frozen 8; have H3 := Lib.hid (H2b.out.wrote (y := ⟨x.mod, x.nam, 0, 0, 0, 0, false, 0, false⟩) (gb_put1 w3 (w.heap.size + 1) 1 (.string (S x.nam))) (H2b.out.b1.put 1 (.string (S x.nam))))))
    | (go_at_call 89; go_must ((with_reducible refine HN1.out.mono ?_); rintro e w1 ⟨rfl, hs, hg⟩; have H1 := Lib.hid (H0.out.step hs hg); clear hs hg; obtain ⟨c0, c1, c2, c3, c4, c5, c6, c7, c8⟩ := H1.out.b1.im; have f0 := H1.out.b1.frozen 0; have f1 := H1.out.b1.frozen 1; have f2 := H1.out.b1.frozen 2; have f3 := H1.out.b1.frozen 3; have f4 := H1.out.b1.frozen 4; have f5 := H1.out.b1.frozen 5; have f6 := H1.out.b1.frozen 6; have f7 := H1.out.b1.frozen 7; have f8 := H1.out.b1.frozen 8; have H2 := Lib.hid (H1.out.wrote (y := ⟨x.mod, [], 0, 0, 0, 0, false, 0, false⟩) (gb_put1 w1 (w.heap.size + 1) 0 (.string (S x.mod))) (H1.out.b1.put 0 (.string (S x.mod)))))))
  clear c0 f0 c1 f1 c2 f2 c3 f3 c4 f4 c5 f5 c6 f6 c7 f7 c8 f8
  generalize w5.setCell ⟨w.heap.size + 1, 2, none⟩ (.int .u8 x.kind.toNat) = W5 at *
  obtain ⟨c0, c1, c2, c3, c4, c5, c6, c7, c8⟩ := H5.out.b1.im
  have f0 := H5.out.b1.frozen 0
  have f1 := H5.out.b1.frozen 1
  have f2 := H5.out.b1.frozen 2
  have f3 := H5.out.b1.frozen 3
  have f4 := H5.out.b1.frozen 4
  have f5 := H5.out.b1.frozen 5
  have f6 := H5.out.b1.frozen 6
  have f7 := H5.out.b1.frozen 7
  have f8 := H5.out.b1.frozen 8
  go_upto_region 14 with (go_at_call 52; go_must ((with_reducible refine (HV.out _ H5.out.sc).mono ?_); rintro e w6 ⟨rfl, hs, hg⟩; clear c0 f0 c1 f1 c2 f2 c3 f3 c4 f4 c5 f5 c6 f6 c7 f7 c8 f8; have H6 := Lib.hid (H5.out.step hs hg); clear hs hg; obtain ⟨c0, c1, c2, c3, c4, c5, c6, c7, c8⟩ := H6.out.b1.im; have f0 := H6.out.b1.frozen 0; have f1 := H6.out.b1.frozen 1; have f2 := H6.out.b1.frozen 2; have f3 := H6.out.b1.frozen 3; have f4 := H6.out.b1.frozen 4; have f5 := H6.out.b1.frozen 5; have f6 := H6.out.b1.frozen 6; have f7 := H6.out.b1.frozen 7; have f8 := H6.out.b1.frozen 8; have H7 := Lib.hid (H6.out.wrote (y := ⟨x.mod, x.nam, x.kind, x.typ, 0, 0, false, 0, false⟩) (gb_put (p := ⟨w.heap.size + 1, 3, none⟩) (gb_refl w6 _) (.inl rfl) (.int .u32 x.typ.toNat)) (H6.out.b1.put 3 (.int .u32 x.typ.toNat)))))
  clear c0 f0 c1 f1 c2 f2 c3 f3 c4 f4 c5 f5 c6 f6 c7 f7 c8 f8
  generalize (w6.setCell ⟨w.heap.size + 1, 3, none⟩ (.int .u32 x.typ.toNat)) = W7 at *
  rw [← HX.out] at H7
  obtain ⟨c0, c1, c2, c3, c4, c5, c6, c7, c8⟩ := H7.out.b1.im
  have f0 := H7.out.b1.frozen 0
  have f1 := H7.out.b1.frozen 1
  have f2 := H7.out.b1.frozen 2
  have f3 := H7.out.b1.frozen 3
  have f4 := H7.out.b1.frozen 4
  have f5 := H7.out.b1.frozen 5
  have f6 := H7.out.b1.frozen 6
  have f7 := H7.out.b1.frozen 7
  have f8 := H7.out.b1.frozen 8
  obtain ⟨z0, z1, z2, z3, z4, z5, z6, z7, z8⟩ := H7.out.b0.im
  have y0 := H7.out.b0.frozen 0
  have y1 := H7.out.b0.frozen 1
  have y2 := H7.out.b0.frozen 2
  have y3 := H7.out.b0.frozen 3
  have y4 := H7.out.b0.frozen 4
  have y5 := H7.out.b0.frozen 5
  have y6 := H7.out.b0.frozen 6
  have y7 := H7.out.b0.frozen 7
  have y8 := H7.out.b0.frozen 8
  go_wp2
  obtain ⟨hW, hS, hG⟩ := got_end H7.out rfl
  obtain ⟨q0, q1, q2, q3, q4, q5, q6, q7, q8⟩ := hW.im
  exact bodyPost_ret (v := imV x) (by simp [results, Tryd.results66, go_sem, q0, q1, q2, q3, q4, q5, q6, q7, q8]) rfl ⟨rfl, hS, hG⟩
set_option maxHeartbeats 4000000 in
theorem get_1 {w : World} {p : Nat} {l : List UInt8} {k k1 k2 k3 k4 : Nat} {x : Im} (h : Sc w p l k) (hT : TbN p w) (h1 : nmR l k = .ok x.mod k1) (h2 : nmR l k1 = .ok x.nam k2) (h3 : byteR l k2 = .ok x.kind k3)
    (hk : x.kind.toNat = 1) {kt : Nat} (ht : tagR l k3 112 = .ok () kt) (hv : limR l kt = .ok ((x.mn.toNat : Int), (x.mx.toNat : Int), x.bd) k4) (hx : x = ⟨x.mod, x.nam, x.kind, 0, x.mn, x.mx, x.bd, 0, false⟩) : Calls Tryd.prog 66 #[.pointer (some ⟨p, 0, none⟩)] w (Gots p l k4 x w) := by
  have H0 := Lib.hid (GIn.start h hT)
  have hN := name_scan H0.out.sc H0.out.tb
  rw [h1] at hN
  have HN1 := Lib.hid hN
  have HN2 := Lib.hid (fun W (hs : Sc W p l k1) (hb : TbN p W) => by have := name_scan hs hb; rw [h2] at this; exact this)
  have HK := Lib.hid (fun W (hs : Sc W p l k2) => nk_ok hs h3 (by omega))
  have HV := Lib.hid (fun W (hs : Sc W p l k3) => table_ok hs ht hv)
  have d0 : ((x.kind.toNat : Int) == 0) = false := be_of (by simp; omega)
  have d1 : ((x.kind.toNat : Int) == 1) = true := be_of (by simp; omega)
  have HX := Lib.hid hx
  obtain ⟨c0, c1, c2, c3, c4, c5, c6, c7, c8⟩ := H0.out.b1.im
  clear h hT hN h1 h2 h3 hk hv ht hx c0 c1 c2 c3 c4 c5 c6 c7 c8
  go_enter Tryd.func66, Tryd.ntmps66
  go_upto_region 5 with (first
    | (have tok := H3; go_at_call 95; go_must ((with_reducible refine (HK.out _ H3.out.sc).mono ?_); rintro e w5 ⟨rfl, hs, hg⟩; clear c0 f0 c1 f1 c2 f2 c3 f3 c4 f4 c5 f5 c6 f6 c7 f7 c8 f8; have H4 := Lib.hid (H3.out.step hs hg); clear hs hg; obtain ⟨c0, c1, c2, c3, c4, c5, c6, c7, c8⟩ := H4.out.b1.im; have f0 := H4.out.b1.frozen 0; have f1 := H4.out.b1.frozen 1; have f2 := H4.out.b1.frozen 2; have f3 := H4.out.b1.frozen 3; have f4 := H4.out.b1.frozen 4; have f5 := H4.out.b1.frozen 5; have f6 := H4.out.b1.frozen 6; have f7 := H4.out.b1.frozen 7; have f8 := H4.out.b1.frozen 8; have H5 := Lib.hid (H4.out.wrote (y := ⟨x.mod, x.nam, x.kind, 0, 0, 0, false, 0, false⟩) (gb_put1 w5 (w.heap.size + 1) 2 (.int .u8 x.kind.toNat)) (H4.out.b1.put 2 (.int .u8 x.kind.toNat)))))
    | (have tok := H2; go_at_call 89; go_must ((with_reducible refine (HN2.out _ H2.out.sc H2.out.tb).mono ?_); rintro e w3 ⟨rfl, hs, hg⟩; clear c0 f0 c1 f1 c2 f2 c3 f3 c4 f4 c5 f5 c6 f6 c7 f7 c8 f8; have H2b := Lib.hid (H2.out.step hs hg); clear hs hg; obtain ⟨c0, c1, c2, c3, c4, c5, c6, c7, c8⟩ := H2b.out.b1.im; have f0 := H2b.out.b1.frozen 0; have f1 := H2b.out.b1.frozen 1; have f2 := H2b.out.b1.frozen 2; have f3 := H2b.out.b1.frozen 3; have f4 := H2b.out.b1.frozen 4; have f5 := H2b.out.b1.frozen 5; have f6 := H2b.out.b1.frozen 6; have f7 := H2b.out.b1.frozen 7; have f8 := H2b.out.b1.frozen 8; have H3 := Lib.hid (H2b.out.wrote (y := ⟨x.mod, x.nam, 0, 0, 0, 0, false, 0, false⟩) (gb_put1 w3 (w.heap.size + 1) 1 (.string (S x.nam))) (H2b.out.b1.put 1 (.string (S x.nam))))))
    | (go_at_call 89; go_must ((with_reducible refine HN1.out.mono ?_); rintro e w1 ⟨rfl, hs, hg⟩; have H1 := Lib.hid (H0.out.step hs hg); clear hs hg; obtain ⟨c0, c1, c2, c3, c4, c5, c6, c7, c8⟩ := H1.out.b1.im; have f0 := H1.out.b1.frozen 0; have f1 := H1.out.b1.frozen 1; have f2 := H1.out.b1.frozen 2; have f3 := H1.out.b1.frozen 3; have f4 := H1.out.b1.frozen 4; have f5 := H1.out.b1.frozen 5; have f6 := H1.out.b1.frozen 6; have f7 := H1.out.b1.frozen 7; have f8 := H1.out.b1.frozen 8; have H2 := Lib.hid (H1.out.wrote (y := ⟨x.mod, [], 0, 0, 0, 0, false, 0, false⟩) (gb_put1 w1 (w.heap.size + 1) 0 (.string (S x.mod))) (H1.out.b1.put 0 (.string (S x.mod)))))))
  clear c0 f0 c1 f1 c2 f2 c3 f3 c4 f4 c5 f5 c6 f6 c7 f7 c8 f8
  generalize w5.setCell ⟨w.heap.size + 1, 2, none⟩ (.int .u8 x.kind.toNat) = W5 at *
  obtain ⟨c0, c1, c2, c3, c4, c5, c6, c7, c8⟩ := H5.out.b1.im
  have f0 := H5.out.b1.frozen 0
  have f1 := H5.out.b1.frozen 1
  have f2 := H5.out.b1.frozen 2
  have f3 := H5.out.b1.frozen 3
  have f4 := H5.out.b1.frozen 4
  have f5 := H5.out.b1.frozen 5
  have f6 := H5.out.b1.frozen 6
  have f7 := H5.out.b1.frozen 7
  have f8 := H5.out.b1.frozen 8
  go_upto_region 14 with (go_at_call 96; go_must ((with_reducible refine (HV.out _ H5.out.sc).mono ?_); rintro e w6 ⟨rfl, hs, hg⟩; clear c0 f0 c1 f1 c2 f2 c3 f3 c4 f4 c5 f5 c6 f6 c7 f7 c8 f8; have H6 := Lib.hid (H5.out.step hs hg); clear hs hg; obtain ⟨c0, c1, c2, c3, c4, c5, c6, c7, c8⟩ := H6.out.b1.im; have f0 := H6.out.b1.frozen 0; have f1 := H6.out.b1.frozen 1; have f2 := H6.out.b1.frozen 2; have f3 := H6.out.b1.frozen 3; have f4 := H6.out.b1.frozen 4; have f5 := H6.out.b1.frozen 5; have f6 := H6.out.b1.frozen 6; have f7 := H6.out.b1.frozen 7; have f8 := H6.out.b1.frozen 8; have H7 := Lib.hid (H6.out.wrote (y := ⟨x.mod, x.nam, x.kind, 0, x.mn, x.mx, x.bd, 0, false⟩) (gb_put (p := ⟨w.heap.size + 1, 6, none⟩) (gb_put (p := ⟨w.heap.size + 1, 5, none⟩) (gb_put (p := ⟨w.heap.size + 1, 4, none⟩) (gb_refl w6 _) (.inl rfl) (.int .u32 x.mn.toNat)) (.inl rfl) (.int .u32 x.mx.toNat)) (.inl rfl) (.bool x.bd)) (((H6.out.b1.put 4 (.int .u32 x.mn.toNat)).put 5 (.int .u32 x.mx.toNat)).put 6 (.bool x.bd)))))
  clear c0 f0 c1 f1 c2 f2 c3 f3 c4 f4 c5 f5 c6 f6 c7 f7 c8 f8
  generalize (((w6.setCell ⟨w.heap.size + 1, 4, none⟩ (.int .u32 x.mn.toNat)).setCell ⟨w.heap.size + 1, 5, none⟩ (.int .u32 x.mx.toNat)).setCell ⟨w.heap.size + 1, 6, none⟩ (.bool x.bd)) = W7 at *
  rw [← HX.out] at H7
  obtain ⟨c0, c1, c2, c3, c4, c5, c6, c7, c8⟩ := H7.out.b1.im
  have f0 := H7.out.b1.frozen 0
  have f1 := H7.out.b1.frozen 1
  have f2 := H7.out.b1.frozen 2
  have f3 := H7.out.b1.frozen 3
  have f4 := H7.out.b1.frozen 4
  have f5 := H7.out.b1.frozen 5
  have f6 := H7.out.b1.frozen 6
  have f7 := H7.out.b1.frozen 7
  have f8 := H7.out.b1.frozen 8
  obtain ⟨z0, z1, z2, z3, z4, z5, z6, z7, z8⟩ := H7.out.b0.im
  have y0 := H7.out.b0.frozen 0
  have y1 := H7.out.b0.frozen 1
  have y2 := H7.out.b0.frozen 2
  have y3 := H7.out.b0.frozen 3
  have y4 := H7.out.b0.frozen 4
  have y5 := H7.out.b0.frozen 5
  have y6 := H7.out.b0.frozen 6
  have y7 := H7.out.b0.frozen 7
  have y8 := H7.out.b0.frozen 8
  go_wp2
  obtain ⟨hW, hS, hG⟩ := got_end H7.out rfl
  obtain ⟨q0, q1, q2, q3, q4, q5, q6, q7, q8⟩ := hW.im
  exact bodyPost_ret (v := imV x) (by simp [results, Tryd.results66, go_sem, q0, q1, q2, q3, q4, q5, q6, q7, q8]) rfl ⟨rfl, hS, hG⟩
set_option maxHeartbeats 4000000 in
theorem get_2 {w : World} {p : Nat} {l : List UInt8} {k k1 k2 k3 k4 : Nat} {x : Im} (h : Sc w p l k) (hT : TbN p w) (h1 : nmR l k = .ok x.mod k1) (h2 : nmR l k1 = .ok x.nam k2) (h3 : byteR l k2 = .ok x.kind k3)
    (hk : x.kind.toNat = 2) (hv : limR l k3 = .ok ((x.mn.toNat : Int), (x.mx.toNat : Int), x.bd) k4) (hx : x = ⟨x.mod, x.nam, x.kind, 0, x.mn, x.mx, x.bd, 0, false⟩) : Calls Tryd.prog 66 #[.pointer (some ⟨p, 0, none⟩)] w (Gots p l k4 x w) := by
  have H0 := Lib.hid (GIn.start h hT)
  have hN := name_scan H0.out.sc H0.out.tb
  rw [h1] at hN
  have HN1 := Lib.hid hN
  have HN2 := Lib.hid (fun W (hs : Sc W p l k1) (hb : TbN p W) => by have := name_scan hs hb; rw [h2] at this; exact this)
  have HK := Lib.hid (fun W (hs : Sc W p l k2) => nk_ok hs h3 (by omega))
  have HV := Lib.hid (fun W (hs : Sc W p l k3) => by have := limits_scan hs; rw [hv] at this; exact this)
  have d0 : ((x.kind.toNat : Int) == 0) = false := be_of (by simp; omega)
  have d1 : ((x.kind.toNat : Int) == 1) = false := be_of (by simp; omega)
  have d2 : ((x.kind.toNat : Int) == 2) = true := be_of (by simp; omega)
  have HX := Lib.hid hx
  obtain ⟨c0, c1, c2, c3, c4, c5, c6, c7, c8⟩ := H0.out.b1.im
  clear h hT hN h1 h2 h3 hk hv hx c0 c1 c2 c3 c4 c5 c6 c7 c8
  go_enter Tryd.func66, Tryd.ntmps66
  go_upto_region 5 with (first
    | (have tok := H3; go_at_call 95; go_must ((with_reducible refine (HK.out _ H3.out.sc).mono ?_); rintro e w5 ⟨rfl, hs, hg⟩; clear c0 f0 c1 f1 c2 f2 c3 f3 c4 f4 c5 f5 c6 f6 c7 f7 c8 f8; have H4 := Lib.hid (H3.out.step hs hg); clear hs hg; obtain ⟨c0, c1, c2, c3, c4, c5, c6, c7, c8⟩ := H4.out.b1.im; have f0 := H4.out.b1.frozen 0; have f1 := H4.out.b1.frozen 1; have f2 := H4.out.b1.frozen 2; have f3 := H4.out.b1.frozen 3; have f4 := H4.out.b1.frozen 4; have f5 := H4.out.b1.frozen 5; have f6 := H4.out.b1.frozen 6; have f7 := H4.out.b1.frozen 7; have f8 := H4.out.b1.frozen 8; have H5 := Lib.hid (H4.out.wrote (y := ⟨x.mod, x.nam, x.kind, 0, 0, 0, false, 0, false⟩) (gb_put1 w5 (w.heap.size + 1) 2 (.int .u8 x.kind.toNat)) (H4.out.b1.put 2 (.int .u8 x.kind.toNat)))))
    | (have tok := H2; go_at_call 89; go_must ((with_reducible refine (HN2.out _ H2.out.sc H2.out.tb).mono ?_); rintro e w3 ⟨rfl, hs, hg⟩; clear c0 f0 c1 f1 c2 f2 c3 f3 c4 f4 c5 f5 c6 f6 c7 f7 c8 f8; have H2b := Lib.hid (H2.out.step hs hg); clear hs hg; obtain ⟨c0, c1, c2, c3, c4, c5, c6, c7, c8⟩ := H2b.out.b1.im; have f0 := H2b.out.b1.frozen 0; have f1 := H2b.out.b1.frozen 1; have f2 := H2b.out.b1.frozen 2; have f3 := H2b.out.b1.frozen 3; have f4 := H2b.out.b1.frozen 4; have f5 := H2b.out.b1.frozen 5; have f6 := H2b.out.b1.frozen 6; have f7 := H2b.out.b1.frozen 7; have f8 := H2b.out.b1.frozen 8; have H3 := Lib.hid (H2b.out.wrote (y := ⟨x.mod, x.nam, 0, 0, 0, 0, false, 0, false⟩) (gb_put1 w3 (w.heap.size + 1) 1 (.string (S x.nam))) (H2b.out.b1.put 1 (.string (S x.nam))))))
    | (go_at_call 89; go_must ((with_reducible refine HN1.out.mono ?_); rintro e w1 ⟨rfl, hs, hg⟩; have H1 := Lib.hid (H0.out.step hs hg); clear hs hg; obtain ⟨c0, c1, c2, c3, c4, c5, c6, c7, c8⟩ := H1.out.b1.im; have f0 := H1.out.b1.frozen 0; have f1 := H1.out.b1.frozen 1; have f2 := H1.out.b1.frozen 2; have f3 := H1.out.b1.frozen 3; have f4 := H1.out.b1.frozen 4; have f5 := H1.out.b1.frozen 5; have f6 := H1.out.b1.frozen 6; have f7 := H1.out.b1.frozen 7; have f8 := H1.out.b1.frozen 8; have H2 := Lib.hid (H1.out.wrote (y := ⟨x.mod, [], 0, 0, 0, 0, false, 0, false⟩) (gb_put1 w1 (w.heap.size + 1) 0 (.string (S x.mod))) (H1.out.b1.put 0 (.string (S x.mod)))))))
  clear c0 f0 c1 f1 c2 f2 c3 f3 c4 f4 c5 f5 c6 f6 c7 f7 c8 f8
  generalize w5.setCell ⟨w.heap.size + 1, 2, none⟩ (.int .u8 x.kind.toNat) = W5 at *
  obtain ⟨c0, c1, c2, c3, c4, c5, c6, c7, c8⟩ := H5.out.b1.im
  have f0 := H5.out.b1.frozen 0
  have f1 := H5.out.b1.frozen 1
  have f2 := H5.out.b1.frozen 2
  have f3 := H5.out.b1.frozen 3
  have f4 := H5.out.b1.frozen 4
  have f5 := H5.out.b1.frozen 5
  have f6 := H5.out.b1.frozen 6
  have f7 := H5.out.b1.frozen 7
  have f8 := H5.out.b1.frozen 8
  go_upto_region 14 with (go_at_call 97; go_must ((with_reducible refine (HV.out _ H5.out.sc).mono ?_); rintro e w6 ⟨rfl, hs, hg⟩; clear c0 f0 c1 f1 c2 f2 c3 f3 c4 f4 c5 f5 c6 f6 c7 f7 c8 f8; have H6 := Lib.hid (H5.out.step hs hg); clear hs hg; obtain ⟨c0, c1, c2, c3, c4, c5, c6, c7, c8⟩ := H6.out.b1.im; have f0 := H6.out.b1.frozen 0; have f1 := H6.out.b1.frozen 1; have f2 := H6.out.b1.frozen 2; have f3 := H6.out.b1.frozen 3; have f4 := H6.out.b1.frozen 4; have f5 := H6.out.b1.frozen 5; have f6 := H6.out.b1.frozen 6; have f7 := H6.out.b1.frozen 7; have f8 := H6.out.b1.frozen 8; have H7 := Lib.hid (H6.out.wrote (y := ⟨x.mod, x.nam, x.kind, 0, x.mn, x.mx, x.bd, 0, false⟩) (gb_put (p := ⟨w.heap.size + 1, 6, none⟩) (gb_put (p := ⟨w.heap.size + 1, 5, none⟩) (gb_put (p := ⟨w.heap.size + 1, 4, none⟩) (gb_refl w6 _) (.inl rfl) (.int .u32 x.mn.toNat)) (.inl rfl) (.int .u32 x.mx.toNat)) (.inl rfl) (.bool x.bd)) (((H6.out.b1.put 4 (.int .u32 x.mn.toNat)).put 5 (.int .u32 x.mx.toNat)).put 6 (.bool x.bd)))))
  clear c0 f0 c1 f1 c2 f2 c3 f3 c4 f4 c5 f5 c6 f6 c7 f7 c8 f8
  generalize (((w6.setCell ⟨w.heap.size + 1, 4, none⟩ (.int .u32 x.mn.toNat)).setCell ⟨w.heap.size + 1, 5, none⟩ (.int .u32 x.mx.toNat)).setCell ⟨w.heap.size + 1, 6, none⟩ (.bool x.bd)) = W7 at *
  rw [← HX.out] at H7
  obtain ⟨c0, c1, c2, c3, c4, c5, c6, c7, c8⟩ := H7.out.b1.im
  have f0 := H7.out.b1.frozen 0
  have f1 := H7.out.b1.frozen 1
  have f2 := H7.out.b1.frozen 2
  have f3 := H7.out.b1.frozen 3
  have f4 := H7.out.b1.frozen 4
  have f5 := H7.out.b1.frozen 5
  have f6 := H7.out.b1.frozen 6
  have f7 := H7.out.b1.frozen 7
  have f8 := H7.out.b1.frozen 8
  obtain ⟨z0, z1, z2, z3, z4, z5, z6, z7, z8⟩ := H7.out.b0.im
  have y0 := H7.out.b0.frozen 0
  have y1 := H7.out.b0.frozen 1
  have y2 := H7.out.b0.frozen 2
  have y3 := H7.out.b0.frozen 3
  have y4 := H7.out.b0.frozen 4
  have y5 := H7.out.b0.frozen 5
  have y6 := H7.out.b0.frozen 6
  have y7 := H7.out.b0.frozen 7
  have y8 := H7.out.b0.frozen 8
  go_wp2
  obtain ⟨hW, hS, hG⟩ := got_end H7.out rfl
  obtain ⟨q0, q1, q2, q3, q4, q5, q6, q7, q8⟩ := hW.im
  exact bodyPost_ret (v := imV x) (by simp [results, Tryd.results66, go_sem, q0, q1, q2, q3, q4, q5, q6, q7, q8]) rfl ⟨rfl, hS, hG⟩
set_option maxHeartbeats 4000000 in
theorem get_3 {w : World} {p : Nat} {l : List UInt8} {k k1 k2 k3 k4 : Nat} {x : Im} (h : Sc w p l k) (hT : TbN p w) (h1 : nmR l k = .ok x.mod k1) (h2 : nmR l k1 = .ok x.nam k2) (h3 : byteR l k2 = .ok x.kind k3)
    (hk : x.kind.toNat = 3) (hv : globR l k3 = .ok (x.gt, x.gm) k4) (hx : x = ⟨x.mod, x.nam, x.kind, 0, 0, 0, false, x.gt, x.gm⟩) : Calls Tryd.prog 66 #[.pointer (some ⟨p, 0, none⟩)] w (Gots p l k4 x w) := by
  have H0 := Lib.hid (GIn.start h hT)
  have hN := name_scan H0.out.sc H0.out.tb
  rw [h1] at hN
  have HN1 := Lib.hid hN
  have HN2 := Lib.hid (fun W (hs : Sc W p l k1) (hb : TbN p W) => by have := name_scan hs hb; rw [h2] at this; exact this)
  have HK := Lib.hid (fun W (hs : Sc W p l k2) => nk_ok hs h3 (by omega))
  have HV := Lib.hid (fun W (hs : Sc W p l k3) => by have := global_scan hs; rw [hv] at this; exact this)
  have d0 : ((x.kind.toNat : Int) == 0) = false := be_of (by simp; omega)
  have d1 : ((x.kind.toNat : Int) == 1) = false := be_of (by simp; omega)
  have d2 : ((x.kind.toNat : Int) == 2) = false := be_of (by simp; omega)
  have d3 : ((x.kind.toNat : Int) == 3) = true := be_of (by simp; omega)
  have HX := Lib.hid hx
  obtain ⟨c0, c1, c2, c3, c4, c5, c6, c7, c8⟩ := H0.out.b1.im
  clear h hT hN h1 h2 h3 hk hv hx c0 c1 c2 c3 c4 c5 c6 c7 c8
  go_enter Tryd.func66, Tryd.ntmps66
  go_upto_region 5 with (first
    | (have tok := H3; go_at_call 95; go_must ((with_reducible refine (HK.out _ H3.out.sc).mono ?_); rintro e w5 ⟨rfl, hs, hg⟩; clear c0 f0 c1 f1 c2 f2 c3 f3 c4 f4 c5 f5 c6 f6 c7 f7 c8 f8; have H4 := Lib.hid (H3.out.step hs hg); clear hs hg; obtain ⟨c0, c1, c2, c3, c4, c5, c6, c7, c8⟩ := H4.out.b1.im; have f0 := H4.out.b1.frozen 0; have f1 := H4.out.b1.frozen 1; have f2 := H4.out.b1.frozen 2; have f3 := H4.out.b1.frozen 3; have f4 := H4.out.b1.frozen 4; have f5 := H4.out.b1.frozen 5; have f6 := H4.out.b1.frozen 6; have f7 := H4.out.b1.frozen 7; have f8 := H4.out.b1.frozen 8; have H5 := Lib.hid (H4.out.wrote (y := ⟨x.mod, x.nam, x.kind, 0, 0, 0, false, 0, false⟩) (gb_put1 w5 (w.heap.size + 1) 2 (.int .u8 x.kind.toNat)) (H4.out.b1.put 2 (.int .u8 x.kind.toNat)))))
    | (have tok := H2; go_at_call 89; go_must ((with_reducible refine (HN2.out _ H2.out.sc H2.out.tb).mono ?_); rintro e w3 ⟨rfl, hs, hg⟩; clear c0 f0 c1 f1 c2 f2 c3 f3 c4 f4 c5 f5 c6 f6 c7 f7 c8 f8; have H2b := Lib.hid (H2.out.step hs hg); clear hs hg; obtain ⟨c0, c1, c2, c3, c4, c5, c6, c7, c8⟩ := H2b.out.b1.im; have f0 := H2b.out.b1.frozen 0; have f1 := H2b.out.b1.frozen 1; have f2 := H2b.out.b1.frozen 2; have f3 := H2b.out.b1.frozen 3; have f4 := H2b.out.b1.frozen 4; have f5 := H2b.out.b1.frozen 5; have f6 := H2b.out.b1.frozen 6; have f7 := H2b.out.b1.frozen 7; have f8 := H2b.out.b1.frozen 8; have H3 := Lib.hid (H2b.out.wrote (y := ⟨x.mod, x.nam, 0, 0, 0, 0, false, 0, false⟩) (gb_put1 w3 (w.heap.size + 1) 1 (.string (S x.nam))) (H2b.out.b1.put 1 (.string (S x.nam))))))
    | (go_at_call 89; go_must ((with_reducible refine HN1.out.mono ?_); rintro e w1 ⟨rfl, hs, hg⟩; have H1 := Lib.hid (H0.out.step hs hg); clear hs hg; obtain ⟨c0, c1, c2, c3, c4, c5, c6, c7, c8⟩ := H1.out.b1.im; have f0 := H1.out.b1.frozen 0; have f1 := H1.out.b1.frozen 1; have f2 := H1.out.b1.frozen 2; have f3 := H1.out.b1.frozen 3; have f4 := H1.out.b1.frozen 4; have f5 := H1.out.b1.frozen 5; have f6 := H1.out.b1.frozen 6; have f7 := H1.out.b1.frozen 7; have f8 := H1.out.b1.frozen 8; have H2 := Lib.hid (H1.out.wrote (y := ⟨x.mod, [], 0, 0, 0, 0, false, 0, false⟩) (gb_put1 w1 (w.heap.size + 1) 0 (.string (S x.mod))) (H1.out.b1.put 0 (.string (S x.mod)))))))
  clear c0 f0 c1 f1 c2 f2 c3 f3 c4 f4 c5 f5 c6 f6 c7 f7 c8 f8
  generalize w5.setCell ⟨w.heap.size + 1, 2, none⟩ (.int .u8 x.kind.toNat) = W5 at *
  obtain ⟨c0, c1, c2, c3, c4, c5, c6, c7, c8⟩ := H5.out.b1.im
  have f0 := H5.out.b1.frozen 0
  have f1 := H5.out.b1.frozen 1
  have f2 := H5.out.b1.frozen 2
  have f3 := H5.out.b1.frozen 3
  have f4 := H5.out.b1.frozen 4
  have f5 := H5.out.b1.frozen 5
  have f6 := H5.out.b1.frozen 6
  have f7 := H5.out.b1.frozen 7
  have f8 := H5.out.b1.frozen 8
  go_upto_region 14 with (go_at_call 98; go_must ((with_reducible refine (HV.out _ H5.out.sc).mono ?_); rintro e w6 ⟨rfl, hs, hg⟩; clear c0 f0 c1 f1 c2 f2 c3 f3 c4 f4 c5 f5 c6 f6 c7 f7 c8 f8; have H6 := Lib.hid (H5.out.step hs hg); clear hs hg; obtain ⟨c0, c1, c2, c3, c4, c5, c6, c7, c8⟩ := H6.out.b1.im; have f0 := H6.out.b1.frozen 0; have f1 := H6.out.b1.frozen 1; have f2 := H6.out.b1.frozen 2; have f3 := H6.out.b1.frozen 3; have f4 := H6.out.b1.frozen 4; have f5 := H6.out.b1.frozen 5; have f6 := H6.out.b1.frozen 6; have f7 := H6.out.b1.frozen 7; have f8 := H6.out.b1.frozen 8; have H7 := Lib.hid (H6.out.wrote (y := ⟨x.mod, x.nam, x.kind, 0, 0, 0, false, x.gt, x.gm⟩) (gb_put (p := ⟨w.heap.size + 1, 8, none⟩) (gb_put (p := ⟨w.heap.size + 1, 7, none⟩) (gb_refl w6 _) (.inl rfl) (.int .u8 x.gt.toNat)) (.inl rfl) (.bool x.gm)) ((H6.out.b1.put 7 (.int .u8 x.gt.toNat)).put 8 (.bool x.gm)))))
  clear c0 f0 c1 f1 c2 f2 c3 f3 c4 f4 c5 f5 c6 f6 c7 f7 c8 f8
  generalize ((w6.setCell ⟨w.heap.size + 1, 7, none⟩ (.int .u8 x.gt.toNat)).setCell ⟨w.heap.size + 1, 8, none⟩ (.bool x.gm)) = W7 at *
  rw [← HX.out] at H7
  obtain ⟨c0, c1, c2, c3, c4, c5, c6, c7, c8⟩ := H7.out.b1.im
  have f0 := H7.out.b1.frozen 0
  have f1 := H7.out.b1.frozen 1
  have f2 := H7.out.b1.frozen 2
  have f3 := H7.out.b1.frozen 3
  have f4 := H7.out.b1.frozen 4
  have f5 := H7.out.b1.frozen 5
  have f6 := H7.out.b1.frozen 6
  have f7 := H7.out.b1.frozen 7
  have f8 := H7.out.b1.frozen 8
  obtain ⟨z0, z1, z2, z3, z4, z5, z6, z7, z8⟩ := H7.out.b0.im
  have y0 := H7.out.b0.frozen 0
  have y1 := H7.out.b0.frozen 1
  have y2 := H7.out.b0.frozen 2
  have y3 := H7.out.b0.frozen 3
  have y4 := H7.out.b0.frozen 4
  have y5 := H7.out.b0.frozen 5
  have y6 := H7.out.b0.frozen 6
  have y7 := H7.out.b0.frozen 7
  have y8 := H7.out.b0.frozen 8
  go_wp2
  obtain ⟨hW, hS, hG⟩ := got_end H7.out rfl
  obtain ⟨q0, q1, q2, q3, q4, q5, q6, q7, q8⟩ := hW.im
  exact bodyPost_ret (v := imV x) (by simp [results, Tryd.results66, go_sem, q0, q1, q2, q3, q4, q5, q6, q7, q8]) rfl ⟨rfl, hS, hG⟩
end Go.Proofs.YtihpnplfklbgjaaDoor
