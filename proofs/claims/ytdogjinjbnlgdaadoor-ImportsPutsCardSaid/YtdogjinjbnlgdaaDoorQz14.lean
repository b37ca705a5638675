/- imports.GetAll of a list's bytes; the laws' closures. -/
import Derived.Test.YtdogjinjbnlgdaaDoorQz13
import Derived.Deep.LoopGhost
import Derived.Test.YtdogjinjbnlgdaaDoorQz12
import Derived.Deep.QuietTactic
import Derived.BigQuiet
import Derived.StillTailTactics
import Derived.Deep.DeepMust
namespace Go.Proofs.YtdogjinjbnlgdaaDoor
open Go.RowKit
set_option linter.unusedVariables false
set_option maxRecDepth 100000

/-- What holds at the head of GetAll's loop. -/
structure AIn (w : World) (p : Nat) (l : List UInt8) (k : Nat) (xs : List Im) (v : Value) (W : World) : Prop where
  sc : Sc W p l k
  g : w.grownBy W (some p)
  r : RowM W w.heap.size v xs
  tb : TbN p W
section
variable {w W W' : World} {p : Nat} {l : List UInt8} {k k' : Nat} {xs : List Im} {x : Im} {v v' : Value}
theorem AIn.step (h : AIn w p l k xs v W) (hp : p < w.heap.size) (hg : W.grownBy W' (some p)) (hs : Sc W' p l k') : AIn w p l k' xs v W' :=
  ⟨hs, gb_trans h.g hg, h.r.past hg hp, h.tb.keep hg (Nat.le_refl _)⟩
theorem AIn.alloc (h : AIn w p l k xs v W) (hp : p < w.heap.size) (o : Obj) : AIn w p l k xs v (W.alloc o) := h.step hp (gb_alloc (gb_refl _ _) o) (h.sc.alloc o)
theorem AIn.more (h : AIn w p l k xs v W) (hp : p < w.heap.size) (hg : W.grownBy W' v.ownBlock) (hr : RowM W' w.heap.size v' (xs ++ [x])) : AIn w p l k (xs ++ [x]) v' W' := by
  have hlt := World.ownsRow.lt h.r
  refine ⟨h.sc.grown hg (fun e => by have := hlt p e.symm; omega) (fun g e => by have := hlt g e; omega), gb_before h.g hg (fun g e => .inr (hlt g e).1), hr, ?_⟩
  obtain ⟨⟨h1, h2⟩, h3, h4, h5⟩ := h.tb
  have key : ∀ b o, b < p → W'.cell? ⟨b, o, none⟩ = W.cell? ⟨b, o, none⟩ := fun b o hb => by
    unfold World.cell?
    rw [hg.block b (by omega) (fun e => by have := hlt b e.symm; omega)]
  exact ⟨⟨fun c hc => (key _ _ h3).trans (h1 c hc), fun i hi => ⟨(key _ _ h4).trans (h2 i hi).1, (key _ _ h4).trans (h2 i hi).2⟩⟩, h3, h4, Nat.le_trans h5 hg.size⟩
end
/-- The list that was read. -/
def GotAll (p : Nat) (l : List UInt8) (xs : List Im) (w : World) (e : Ending) (w' : World) : Prop := ∃ v, e = .returned v ∧ RowM w' w.heap.size v xs ∧ Sc w' p l l.length ∧ w.grownBy w' (some p)
set_option maxHeartbeats 4000000 in
theorem getall_im {w : World} {p : Nat} {l : List UInt8} {xs : List Im} (h : Sc w p l 0) (hT : TbN p w) (hd : l = allL xs) (hz : errL xs = 0) (hn1 : xs.length ≤ 1000) :
    Calls Tryd.prog 21 #[.pointer (some ⟨p, 0, none⟩)] w (GotAll p l xs w) := by
  have hp := h.lt
  have hd0 : l.drop 0 = lebL (xs.length : Int) ++ iputsL xs := by rw [hd]; rfl
  have hc := count_scan h
  rw [countR_at hd0 (by omega) (by omega)] at hc
  have hd1 := drop_past hd0
  rw [Nat.zero_add] at hc hd1
  have HC := Lib.hid hc
  obtain ⟨n, hn⟩ : ∃ n, n = xs.length := ⟨_, rfl⟩
  rw [← hn] at HC hn1
  have HN := Lib.hid hn
  have HE := Lib.hid (show xs.take n = xs ∧ xs.drop n = [] by rw [hn]; exact ⟨List.take_length, List.drop_length⟩)
  have HM := Lib.hid (errL_mem hz)
  have HT := Lib.hid hT
  obtain ⟨k0, hk0⟩ : ∃ k0, k0 = (lebL (n : Int)).length := ⟨_, rfl⟩
  rw [← hn, ← hk0] at hd1
  rw [← hk0] at HC
  have HD := Lib.hid hd1
  clear h hT hd hd0 hc hz hn hd1 hk0
  go_enter Tryd.func21, Tryd.ntmps21
  go_wp2_with (go_at_call 48; go_must ((with_reducible refine HC.out.mono ?_); rintro e w1 ⟨rfl, hs, hg⟩; have HS := Lib.hid hs; have HG := Lib.hid hg; clear hs hg))
  go_loopw [3, 6] (fun v i wr => ∃ j k : Nat, j ≤ n ∧ i = .int .i64 j ∧ AIn w p l k (xs.take j) v wr ∧ l.drop k = iputsL (xs.drop j)) (fun _ i _ => n - (intOf i).toNat)
  case atStart => exact ⟨0, k0, Nat.zero_le _, rfl, ⟨HS.out, HG.out, RowM.nil _ _, HT.out.keep HG.out (Nat.le_refl _)⟩, HD.out⟩
  case round =>
    obtain ⟨j, k, hj, rfl, ha, hdk⟩ := hrel
    by_cases hlt : j < n
    · obtain ⟨x, hx⟩ : ∃ x, xs[j]? = some x := ⟨_, List.getElem?_eq_getElem (by rw [← HN.out]; exact hlt)⟩
      have hj2 : j < xs.length := by rw [← HN.out]; exact hlt
      have hdx : xs.drop j = x :: xs.drop (j + 1) := by
        obtain ⟨q1, q2⟩ := List.getElem?_eq_some_iff.1 hx
        rw [List.drop_eq_getElem_cons q1, q2]
      have hdk2 : l.drop k = iputL x ++ iputsL (xs.drop (j + 1)) := by rw [hdk, hdx]; unfold iputsL; rw [List.flatMap_cons]
      have HGe := Lib.hid (get_im ha.sc ha.tb hdk2 (HM.out x (List.mem_of_getElem? hx)))
      have HDK := Lib.hid (drop_past hdk2)
      have HTk := Lib.hid (show xs.take (j + 1) = xs.take j ++ [x] by rw [List.take_add_one, hx]; rfl)
      have HA := Lib.hid ha
      have hle : (xs.take j).length ≤ 10000 := by rw [List.length_take]; omega
      clear ha hdk hdk2 hdx hx hj2
      go_wp2_with (first
        | (go_at_call 13; go_must ((with_reducible refine HGe.out.mono ?_); rintro e w2 ⟨rfl, hs, hg⟩; have HA2 := Lib.hid (HA.out.step hp hg hs); have hz2 := HA2.out.g.size; have HX := Lib.hid (Whole.made w2 28 (imC x)); clear hs hg))
        | (at_builtin; (refine rowM_new rfl _ _ rfl w.heap.size _ (xs.take j) rfl (HA2.out.alloc hp _).r w2.heap.size x rfl HX.out hle (Nat.le_trans hz2 (below_box w2 _).size) ?_; intro v3 w3 hr3 hg3; have HA3 := Lib.hid ((HA2.out.alloc hp _).more hp hg3 hr3); clear hr3 hg3)))
      go_roundw
      case rel => exact ⟨j + 1, k + (iputL x).length, by omega, by go_num, by rw [HTk.out]; exact HA3.out, HDK.out⟩
      case measure => simp [intOf]; omega
    · obtain rfl : j = n := by omega
      rw [HE.out.1] at ha
      rw [HE.out.2] at hdk
      have hkl : k = l.length := by
        have e := congrArg List.length hdk
        rw [List.length_drop] at e
        have := ha.sc.le.1
        simp [iputsL] at e
        omega
      subst hkl
      have HA := Lib.hid ha
      have HEn := Lib.hid (end_ok ha.sc)
      clear ha hdk
      go_wp2_with (go_at_call 49; go_must ((with_reducible refine HEn.out.mono ?_); rintro e w2 ⟨rfl, m, rfl⟩))
      go_ret
      have HA2 := HA.out.step hp (gb_drewN (gb_refl _ _) m) (HA.out.sc.drewN m)
      exact ⟨_, rfl, HA2.r, HA2.sc, HA2.g⟩
theorem cfI1 (cap : Array Value) (w : World) : (callFunc 12 cap).run Tryd.prog w = .ok (.enter 12 cap) w := by kernel_rfl
theorem cfI2 (cap : Array Value) (w : World) : (callFunc 20 cap).run Tryd.prog w = .ok (.enter 20 cap) w := by kernel_rfl
set_option maxHeartbeats 4000000 in
theorem clos1 {w : World} {p b : Nat} {l : List UInt8} {k : Nat} {x : Im} (hb : Whole w b 36 #[.pointer (some ⟨p, 0, none⟩)])
    (hG : ∀ W, Below w.heap.size w W → Calls Tryd.prog 13 #[.pointer (some ⟨p, 0, none⟩)] W (Gots p l k x W)) (hp : p < w.heap.size) :
    Calls Tryd.prog 12 #[.pointer (some ⟨b, 0, none⟩)] w (Gots p l k x w) := by
  have c0 := hb.cell 0
  simp only [List.getElem?_toArray, List.getElem?_cons_zero] at c0
  have HGt := Lib.hid (hG _ (below_box w (.cells zC 28)))
  have HWM := Lib.hid (Whole.made w 28 (imC imZ))
  rw [imC_zero] at HWM
  have c0' : ∀ o, (w.alloc o).cell? ⟨b, 0, none⟩ = some (.pointer (some ⟨p, 0, none⟩)) := fun o => (hb.alloc o).cell 0
  clear hb hG c0
  go_enter Tryd.func12, Tryd.ntmps12
  go_wp2_with (go_at_call 13; go_must ((with_reducible refine HGt.out.mono ?_); rintro e w1 ⟨rfl, hs, hg⟩; have HS := Lib.hid hs; have HG := Lib.hid hg; have HW1 := Lib.hid (HWM.out.grown hg (by simp only [ne_eq, Option.some.injEq]; omega)); obtain ⟨k0, k1, k2, k3, k4, k5, k6, k7, k8⟩ := (show Whole w1 w.heap.size 28 (imC imZ) from HW1.out).im; have f0 := HW1.out.frozen 0; have f1 := HW1.out.frozen 1; have f2 := HW1.out.frozen 2; have f3 := HW1.out.frozen 3; have f4 := HW1.out.frozen 4; have f5 := HW1.out.frozen 5; have f6 := HW1.out.frozen 6; have f7 := HW1.out.frozen 7; have f8 := HW1.out.frozen 8; clear hs hg))
  obtain ⟨h1, h2⟩ := put9 (u0 := .string (S x.mod)) (u1 := .string (S x.nam)) (u2 := .int .u8 x.kind.toNat) (u3 := .int .u32 x.typ.toNat) (u4 := .int .u32 x.mn.toNat) (u5 := .int .u32 x.mx.toNat) (u6 := .bool x.bd) (u7 := .int .u8 x.gt.toNat) (u8 := .bool x.gm) HW1.out
  obtain ⟨q0, q1, q2, q3, q4, q5, q6, q7, q8⟩ := Whole.im (x := x) h1
  exact bodyPost_ret (v := imV x) (by simp [results, Tryd.results12, go_sem, q0, q1, q2, q3, q4, q5, q6, q7, q8]) rfl ⟨rfl, HS.out.grown h2 (by simp only [ne_eq, Option.some.injEq]; omega) (fun g e => by injection e with e; omega), gb_before (gb_trans (gb_alloc (gb_refl _ _) _) HG.out) h2 (fun g e => .inr (by injection e with e; omega))⟩
theorem clos2 {w : World} {p b : Nat} {l : List UInt8} {xs : List Im} (hb : Whole w b 36 #[.pointer (some ⟨p, 0, none⟩)])
    (hG : Calls Tryd.prog 21 #[.pointer (some ⟨p, 0, none⟩)] w (GotAll p l xs w)) :
    Calls Tryd.prog 20 #[.pointer (some ⟨b, 0, none⟩)] w (GotAll p l xs w) := by
  have c0 := hb.cell 0
  simp only [List.getElem?_toArray, List.getElem?_cons_zero] at c0
  have HGt := Lib.hid hG
  clear hb hG
  go_enter Tryd.func20, Tryd.ntmps20
  go_wp2_with (go_at_call 21; go_must ((with_reducible refine HGt.out.mono ?_); intro e w1 hq; obtain ⟨v, rfl, hr, hs, hg⟩ := hq; have HR := Lib.hid hr; have HS := Lib.hid hs; have HG := Lib.hid hg; clear hr hs hg))
  go_ret
  exact ⟨_, rfl, HR.out, HS.out, HG.out⟩
end Go.Proofs.YtdogjinjbnlgdaaDoor

/- imports.Of, Count, Place. -/
namespace Go.Proofs.YtdogjinjbnlgdaaDoor
open Go.RowKit
set_option linter.unusedVariables false
set_option maxRecDepth 100000

/-- Those of a kind. -/
def ofL (kd : Int) (l : List Im) : List Im := l.filter fun x => decide ((x.kind.toNat : Int) = kd)
theorem ofL_take {kd : Int} {l : List Im} {k : Nat} {x : Im} (h : l[k]? = some x) : ofL kd (l.take (k + 1)) = if (x.kind.toNat : Int) = kd then ofL kd (l.take k) ++ [x] else ofL kd (l.take k) := by
  unfold ofL
  rw [List.take_add_one, h, List.filter_append]
  by_cases e : (x.kind.toNat : Int) = kd <;> simp [e]
theorem ofL_len (kd : Int) (l : List Im) (k : Nat) : (ofL kd (l.take k)).length ≤ k := by
  have h1 : (ofL kd (l.take k)).length ≤ (l.take k).length := List.length_filter_le _ _
  rw [List.length_take] at h1
  omega
set_option maxHeartbeats 2000000 in
theorem of_im {w : World} {A : Option Addr} {c : Nat} {l : List Im} (kd : Int) (hl : Ims w A l) (hn1 : l.length ≤ 10000) :
    Calls Tryd.prog 22 #[.slice A l.length c, .int .u8 kd] w fun e w' => ∃ v, e = .returned v ∧ RowM w' w.heap.size v (ofL kd l) ∧ Below w.heap.size w w' := by
  have HL := Lib.hid hl
  obtain ⟨n, hn⟩ : ∃ n, n = l.length := ⟨_, rfl⟩
  have HN := Lib.hid hn
  rw [← hn] at hn1 ⊢
  have HE := Lib.hid (show ofL kd (l.take n) = ofL kd l by rw [hn, List.take_length])
  clear hl hn
  go_enter Tryd.func22, Tryd.ntmps22
  go_wp2
  go_loopw [5, 10] (fun v i wr => ∃ k : Nat, k ≤ n ∧ i = .int .i64 k ∧ RowM wr w.heap.size v (ofL kd (l.take k)) ∧ Below w.heap.size w wr) (fun _ i _ => n - (intOf i).toNat)
  case atStart => exact ⟨0, Nat.zero_le _, rfl, RowM.nil _ _, Below.refl _ _⟩
  case round =>
    obtain ⟨k, hk, rfl, hr, hb⟩ := hrel
    have hz1 := hb.size
    by_cases hlt : k < n
    · obtain ⟨x, hx⟩ : ∃ x, l[k]? = some x := ⟨_, List.getElem?_eq_getElem (by rw [← HN.out]; exact hlt)⟩
      obtain ⟨b, off, rfl, hbl, m0, m1, m2, m3, m4, m5, m6, m7, m8⟩ := (HL.out.below hb).nine hx
      have hTk := ofL_take (kd := kd) hx
      have hlen := ofL_len kd l k
      have HB := Lib.hid hb
      have HR := Lib.hid hr
      by_cases e : (x.kind.toNat : Int) = kd
      · rw [if_pos e] at hTk
        have HTk := Lib.hid hTk
        have d1 : ((x.kind.toNat : Int) == kd) = true := by simpa using e
        have HX := Lib.hid (Whole.made (wr.alloc (.cells (imC x) 28)) 28 (imC x))
        have HRA := Lib.hid ((hr.alloc (.cells (imC x) 28)).alloc (.cells (imC x) 28))
        have HBA := Lib.hid ((hb.alloc hz1 (.cells (imC x) 28)).alloc (by simp; omega) (.cells (imC x) 28))
        have hsz : ((wr.alloc (.cells (imC x) 28)).alloc (.cells (imC x) 28)).heap.size = wr.heap.size + 2 := by simp
        simp only [World.size_alloc] at HX
        clear e hTk hr hb
        go_wp2_with (at_builtin; (refine rowM_new rfl _ _ rfl w.heap.size _ (ofL kd (l.take k)) rfl HRA.out (wr.heap.size + 1) x rfl HX.out (by omega) (by rw [hsz]; omega) ?_; intro v2 w2 hr2 hg2; have HR2 := Lib.hid hr2; have HB2 := Lib.hid (HBA.out.trans (HRA.out.below (w := w) (by rw [hsz]; omega) hg2)); clear hr2 hg2))
        go_roundw
        case rel => exact ⟨k + 1, by omega, by go_num, by rw [HTk.out]; exact HR2.out, HB2.out⟩
        case measure => simp [intOf]; omega
      · rw [if_neg e] at hTk
        have HTk := Lib.hid hTk
        have d1 : ((x.kind.toNat : Int) == kd) = false := by simpa using e
        clear e hTk hr hb
        go_wp2
        go_roundw
        case rel => exact ⟨k + 1, by omega, by go_num, by rw [HTk.out]; exact HR.out.alloc _, HB.out.alloc hz1 _⟩
        case measure => simp [intOf]; omega
    · obtain rfl : k = n := by omega
      have HR := Lib.hid hr
      have HB := Lib.hid hb
      clear hr hb
      go_wp2
      go_ret
      exact ⟨_, rfl, by rw [← HE.out]; exact HR.out, HB.out⟩
set_option maxHeartbeats 2000000 in
theorem count_im {w : World} {A : Option Addr} {c : Nat} {l : List Im} (kd : Int) (hl : Ims w A l) (hn1 : l.length ≤ 10000) :
    Calls Tryd.prog 24 #[.slice A l.length c, .int .u8 kd] w fun e w' => e = .returned (.int .i64 (ofL kd l).length) ∧ Below w.heap.size w w' := by
  have HL := Lib.hid hl
  obtain ⟨n, hn⟩ : ∃ n, n = l.length := ⟨_, rfl⟩
  have HN := Lib.hid hn
  rw [← hn] at hn1 ⊢
  have HE := Lib.hid (show ofL kd (l.take n) = ofL kd l by rw [hn, List.take_length])
  clear hl hn
  go_enter Tryd.func24, Tryd.ntmps24
  go_wp2
  go_loopw [5, 10] (fun v i wr => ∃ k : Nat, k ≤ n ∧ i = .int .i64 k ∧ v = .int .i64 (ofL kd (l.take k)).length ∧ Below w.heap.size w wr) (fun _ i _ => n - (intOf i).toNat)
  case atStart => exact ⟨0, Nat.zero_le _, rfl, rfl, Below.refl _ _⟩
  case round =>
    obtain ⟨k, hk, rfl, rfl, hb⟩ := hrel
    have hz1 := hb.size
    by_cases hlt : k < n
    · obtain ⟨x, hx⟩ : ∃ x, l[k]? = some x := ⟨_, List.getElem?_eq_getElem (by rw [← HN.out]; exact hlt)⟩
      obtain ⟨b, off, rfl, hbl, m0, m1, m2, m3, m4, m5, m6, m7, m8⟩ := (HL.out.below hb).nine hx
      have hTk := ofL_take (kd := kd) hx
      have hlen := ofL_len kd l k
      have HB := Lib.hid hb
      generalize (ofL kd (l.take k)) = t at *
      by_cases e : (x.kind.toNat : Int) = kd
      · rw [if_pos e] at hTk
        have HTk := Lib.hid hTk
        have d1 : ((x.kind.toNat : Int) == kd) = true := by simpa using e
        clear e hTk hb
        go_wp2
        go_roundw
        case rel => exact ⟨k + 1, by omega, by go_num, by rw [HTk.out, List.length_append, List.length_singleton]; go_num, HB.out.alloc hz1 _⟩
        case measure => simp [intOf]; omega
      · rw [if_neg e] at hTk
        have HTk := Lib.hid hTk
        have d1 : ((x.kind.toNat : Int) == kd) = false := by simpa using e
        clear e hTk hb
        go_wp2
        go_roundw
        case rel => exact ⟨k + 1, by omega, by go_num, by rw [HTk.out], HB.out.alloc hz1 _⟩
        case measure => simp [intOf]; omega
    · obtain rfl : k = n := by omega
      have HB := Lib.hid hb
      clear hb
      go_wp2
      go_ret
      exact ⟨congrArg (fun t : List Im => Ending.returned (Value.int .i64 (t.length : Int))) HE.out, HB.out⟩
/-- The place, among those of a kind, of the first of two names: c of the kind come before the list. -/
def plc (kd : Int) (m n : List UInt8) : List Im → Nat → Option Nat
  | [], _ => none
  | x :: r, c => if (x.kind.toNat : Int) = kd then (if x.mod = m ∧ x.nam = n then some c else plc kd m n r (c + 1)) else plc kd m n r c
theorem plc_drop {kd : Int} {m n : List UInt8} {l : List Im} {k : Nat} {x : Im} (h : l[k]? = some x) (c : Nat) :
    plc kd m n (l.drop k) c = if (x.kind.toNat : Int) = kd then (if x.mod = m ∧ x.nam = n then some c else plc kd m n (l.drop (k + 1)) (c + 1)) else plc kd m n (l.drop (k + 1)) c := by
  obtain ⟨h1, h2⟩ := List.getElem?_eq_some_iff.1 h
  rw [List.drop_eq_getElem_cons h1, h2]
  rfl
def plcV (r : Option Nat) : Value := match r with
  | some c => .tuple #[.int .i64 c, .bool true]
  | none => .tuple #[.int .i64 0, .bool false]
theorem S_beqM (a b : List UInt8) : ((S a).toList == (S b).toList) = decide (a = b) := by rw [S_toList, S_toList]; by_cases h : a = b <;> simp [h]
set_option maxHeartbeats 2000000 in
theorem place_im {w : World} {A : Option Addr} {c : Nat} {l : List Im} (kd : Int) (md nm : List UInt8) (hl : Ims w A l) (hn1 : l.length ≤ 10000) :
    Calls Tryd.prog 23 #[.slice A l.length c, .int .u8 kd, .string (S md), .string (S nm)] w fun e w' => e = .returned (plcV (plc kd md nm l 0)) ∧ Below w.heap.size w w' := by
  have HL := Lib.hid hl
  obtain ⟨n, hn⟩ : ∃ n, n = l.length := ⟨_, rfl⟩
  have HN := Lib.hid hn
  rw [← hn] at hn1 ⊢
  obtain ⟨an, han⟩ : ∃ an, an = plc kd md nm l 0 := ⟨_, rfl⟩
  rw [← han]
  have HE := Lib.hid (show l.drop n = [] by rw [hn, List.drop_length])
  have HA := Lib.hid han
  clear hl hn han
  go_enter Tryd.func23, Tryd.ntmps23
  go_wp2
  go_loopw [10, 15] (fun v i wr => ∃ k c : Nat, k ≤ n ∧ c ≤ k ∧ i = .int .i64 k ∧ v = .int .i64 c ∧ an = plc kd md nm (l.drop k) c ∧ Below w.heap.size w wr) (fun _ i _ => n - (intOf i).toNat)
  case atStart => exact ⟨0, 0, Nat.zero_le _, Nat.le_refl _, rfl, rfl, HA.out, Below.refl _ _⟩
  case round =>
    obtain ⟨k, c, hk, hck, rfl, rfl, ha, hb⟩ := hrel
    have hz1 := hb.size
    by_cases hlt : k < n
    · obtain ⟨x, hx⟩ : ∃ x, l[k]? = some x := ⟨_, List.getElem?_eq_getElem (by rw [← HN.out]; exact hlt)⟩
      obtain ⟨b, off, rfl, hbl, m0, m1, m2, m3, m4, m5, m6, m7, m8⟩ := (HL.out.below hb).nine hx
      rw [plc_drop hx] at ha
      have HB := Lib.hid hb
      by_cases e : (x.kind.toNat : Int) = kd
      · rw [if_pos e] at ha
        have d1 : ((x.kind.toNat : Int) != kd) = false := by simpa using e
        by_cases e2 : x.mod = md ∧ x.nam = nm
        · rw [if_pos e2] at ha
          have HAN := Lib.hid ha
          have d2 : ((S x.mod).toList == (S md).toList) = true := by rw [S_beqM, decide_eq_true e2.1]
          have d3 : ((S x.nam).toList == (S nm).toList) = true := by rw [S_beqM, decide_eq_true e2.2]
          clear e e2 ha hb
          go_wp2
          go_ret2
          exact ⟨by rw [HAN.out]; rfl, HB.out.alloc hz1 _⟩
        · rw [if_neg e2] at ha
          have HAN := Lib.hid ha
          by_cases e3 : x.mod = md
          · have d2 : ((S x.mod).toList == (S md).toList) = true := by rw [S_beqM, decide_eq_true e3]
            have d3 : ((S x.nam).toList == (S nm).toList) = false := by rw [S_beqM, decide_eq_false (fun h => e2 ⟨e3, h⟩)]
            clear e e2 e3 ha hb
            go_wp2
            go_roundw
            case rel => exact ⟨k + 1, c + 1, by omega, by omega, by go_num, by go_num, HAN.out, HB.out.alloc hz1 _⟩
            case measure => simp [intOf]; omega
          · have d2 : ((S x.mod).toList == (S md).toList) = false := by rw [S_beqM, decide_eq_false e3]
            clear e e2 e3 ha hb
            go_wp2
            go_roundw
            case rel => exact ⟨k + 1, c + 1, by omega, by omega, by go_num, by go_num, HAN.out, HB.out.alloc hz1 _⟩
            case measure => simp [intOf]; omega
      · rw [if_neg e] at ha
        have HAN := Lib.hid ha
        have d1 : ((x.kind.toNat : Int) != kd) = true := by simpa using e
        clear e ha hb
        go_wp2
        go_roundw
        case rel => exact ⟨k + 1, c, by omega, by omega, by go_num, rfl, HAN.out, HB.out.alloc hz1 _⟩
        case measure => simp [intOf]; omega
    · obtain rfl : k = n := by omega
      rw [HE.out] at ha
      have HAN := Lib.hid ha
      have HB := Lib.hid hb
      clear hb ha
      go_wp2
      go_ret2
      exact ⟨by rw [HAN.out]; rfl, HB.out⟩
end Go.Proofs.YtdogjinjbnlgdaaDoor

/- awake; the walk of ImportsFinds. -/
namespace Go.Proofs.YtdogjinjbnlgdaaDoor
open Go.RowKit
set_option linter.unusedVariables false
set_option maxRecDepth 100000

theorem lebL_sm (x : Int) (h0 : 0 ≤ x) (h1 : x < 128) : lebL x = [UInt8.ofNat x.toNat] := by
  have hn : lebN x = 1 := (lebN_least x (by omega)).unique ⟨Nat.le_refl _, by unfold fitU; simpa using h1, fun m a b => by omega⟩
  unfold lebL
  rw [hn]
  simp [grp]
  congr 2
  omega
/-- The chapter's example. -/
def imE : Im := ⟨[101, 110, 118], [102], 0, 5, 0, 0, false, 0, false⟩
theorem imE_right : rZ imE = 0 := by decide +kernel
theorem imE_put : iputL imE = [3, 101, 110, 118, 1, 102, 0, 5] := by
  have e3 : lebL (imE.mod.length : Int) = [3] := lebL_sm 3 (by omega) (by omega)
  have e1 : lebL (imE.nam.length : Int) = [1] := lebL_sm 1 (by omega) (by omega)
  have e5 : desL imE = [5] := by
    unfold desL
    rw [if_pos (by rfl)]
    exact lebL_sm 5 (by omega) (by omega)
  unfold iputL nmL
  rw [e3, e1, e5]
  rfl
theorem awake_im (w : World) (hT : Tabs w) : Calls Tryd.prog 6 #[] w fun e w' => e = .returned (.bool true) ∧ Below w.heap.size w w' := by
  have hp := put_im imE w hT (by decide) (by decide)
  obtain ⟨l, hl⟩ : ∃ l : List UInt8, l = [3, 101, 110, 118, 1, 102, 0, 5] := ⟨_, rfl⟩
  have HP := Lib.hid (show Calls Tryd.prog 8 #[.agg #[.string { data := #[101, 110, 118] }, .string { data := #[102] }, .int .u8 0, .int .u32 5, .int .u32 0, .int .u32 0, .bool false, .int .u8 0, .bool false]] w fun e w' => ∃ v, e = .returned (.tuple #[v, .int .i64 0]) ∧ Row w' w.heap.size v l ∧ Below w.heap.size w w' from hp.mono fun e w' ⟨v, h1, h2, h3⟩ => ⟨v, by rw [imE_right] at h1; exact h1, by rw [if_pos imE_right, imE_put] at h2; rw [hl]; exact h2, h3⟩)
  have hcmp : ((S l).toList == [3, 101, 110, 118, 1, 102, 0, 5]) = true := by rw [S_toList, hl]; rfl
  clear hl
  clear hp hT
  go_enter Tryd.func6, Tryd.ntmps6
  go_wp2_with (go_at_call 8; go_must ((with_reducible refine HP.out.mono ?_); intro e w1 h; obtain ⟨v, rfl, hr, hb⟩ := h; obtain ⟨A, c, rfl, hcv⟩ := hr.str; have hcv2 := hcv 9 Tryd.underlying9; have HB := Lib.hid hb; clear hb hr hcv))
  go_ret
  exact ⟨rfl, HB.out⟩
theorem ofL_get {kd : Int} {l : List Im} {k : Nat} {x : Im} (h : l[k]? = some x) (e : (x.kind.toNat : Int) = kd) : (ofL kd l)[(ofL kd (l.take k)).length]? = some x := by
  obtain ⟨h1, h2⟩ := List.getElem?_eq_some_iff.1 h
  have e1 : ofL kd l = ofL kd (l.take k) ++ (x :: ofL kd (l.drop (k + 1))) := by
    conv => lhs; rw [← List.take_append_drop k l, List.drop_eq_getElem_cons h1, h2]
    unfold ofL
    rw [List.filter_append, List.filter_cons_of_pos (by simpa using e)]
  rw [e1, List.getElem?_append_right (Nat.le_refl _), Nat.sub_self]
  rfl
theorem ofL_full (kd : Int) (l : List Im) (k : Nat) : (ofL kd (l.take k)).length ≤ (ofL kd l).length := by
  have e : ofL kd l = ofL kd (l.take k) ++ ofL kd (l.drop k) := by unfold ofL; rw [← List.filter_append, List.take_append_drop]
  rw [e, List.length_append]
  omega
/-- What the law's loop has found so far. -/
def Fnd (kd : Int) (md nm : List UInt8) (l : List Im) (k : Nat) (pl ok : Value) : Prop :=
  (ok = .bool false ∧ pl = .int .i64 0 ∧ plc kd md nm l 0 = plc kd md nm (l.drop k) (ofL kd (l.take k)).length) ∨ (∃ c : Nat, ok = .bool true ∧ pl = .int .i64 c ∧ plc kd md nm l 0 = some c)
theorem tmod_in {a : Int} {n : Nat} (h0 : 0 ≤ a) (hn : 0 < n) : ∃ j : Nat, j < n ∧ Int.tmod a n = j := by
  refine ⟨(a % n).toNat, ?_, ?_⟩
  · have := Int.emod_lt_of_pos a (show (0 : Int) < n by omega)
    have := Int.emod_nonneg a (show (n : Int) ≠ 0 by omega)
    omega
  · rw [Int.tmod_eq_emod_of_nonneg h0]
    have := Int.emod_nonneg a (show (n : Int) ≠ 0 by omega)
    omega
set_option maxHeartbeats 8000000 in
theorem lawF {w : World} {A : Option Addr} {c : Nat} {l : List Im} (kd a : Int) (hl : Ims w A l) (hT : Tabs w) (nl : (l.length : Int) ≤ 9223372036854775807) (a0 : 0 ≤ a) (a1 : a ≤ 255) :
    Calls Tryd.prog 5 #[.slice A l.length c, .int .u8 kd, .int .u8 a] w fun e w' => e = .returned (.bool true) ∧ Below w.heap.size w w' := by
  have HAW := Lib.hid (awake_im w hT)
  have HL := Lib.hid hl
  clear hl hT
  by_cases g1 : 40 < l.length
  · have t1 : decide ((40 : Int) < (l.length : Int)) = true := decide_eq_true (by omega)
    clear g1
    go_enter Tryd.func5, Tryd.ntmps5
    go_wp2_with (go_at_call 6; go_must ((with_reducible refine HAW.out.mono ?_); rintro e w1 ⟨rfl, hb⟩; have H1 := Lib.hid hb; clear hb))
    go_ret
    exact ⟨rfl, H1.out⟩
  have t1 : decide ((40 : Int) < (l.length : Int)) = false := decide_eq_false (by omega)
  by_cases g0 : 0 < l.length
  · have t2 : decide ((0 : Int) < (l.length : Int)) = true := decide_eq_true (by omega)
    obtain ⟨j, hj, ht⟩ := tmod_in a0 g0
    obtain ⟨x, hx⟩ : ∃ x, l[j]? = some x := ⟨_, List.getElem?_eq_getElem hj⟩
    obtain ⟨n, hn⟩ : ∃ n, n = l.length := ⟨_, rfl⟩
    have HN := Lib.hid hn
    have HX := Lib.hid hx
    rw [← hn] at t1 t2 ht hj g0 g1 ⊢
    have w1' : wrap64 a = a := by unfold wrap64; omega
    have hn0 : ((n : Int) == 0) = false := be_of (by simp; omega)
    clear hn hx
    go_enter Tryd.func5, Tryd.ntmps5
    go_upto_region 7 with (go_at_call 6; go_must ((with_reducible refine HAW.out.mono ?_); rintro e w1 ⟨rfl, hb⟩; have H1 := Lib.hid hb; have HL1 := Lib.hid (HL.out.below hb); clear hb))
    obtain ⟨b, off, rfl, hbl, m0, m1, m2, m3, m4, m5, m6, m7, m8⟩ := HL1.out.nine HX.out
    go_quiet (fail)
    -- REST
    have HLd := Lib.hid (HL1.out.below (below_drewN (Below.refl _ w1) nq))
    have HBd := Lib.hid (below_drewN H1.out nq)
    clear m0 m1 m2 m3 m4 m5 m6 m7 m8 hbl ht w1' hn0 t2 HX
    have HO := Lib.hid (of_im (c := c) kd HLd.out (by rw [← HN.out]; omega))
    rw [← HN.out] at HO
    have HNL := Lib.hid (show l.take n = l ∧ l.drop n = [] by rw [HN.out]; exact ⟨List.take_length, List.drop_length⟩)
    have HCt := Lib.hid (fun W (h : Ims W (some ⟨b, off, none⟩) l) => count_im (c := c) kd h (by rw [← HN.out]; omega))
    have HPl := Lib.hid (fun W (h : Ims W (some ⟨b, off, none⟩) l) => place_im (c := c) kd x.mod x.nam h (by rw [← HN.out]; omega))
    rw [← HN.out] at HCt HPl
    obtain ⟨an, han⟩ : ∃ an, an = plc kd x.mod x.nam l 0 := ⟨_, rfl⟩
    have HAn := Lib.hid han
    rw [← han] at HPl
    generalize w1.drewN nq = W1 at *
    generalize x.mod = md at *
    generalize x.nam = nm at *
    clear x
    clear han
    go_wp2_with (go_at_call 22; go_must ((with_reducible refine HO.out.mono ?_); intro e w2 h; obtain ⟨v, rfl, hr, hb⟩ := h; obtain ⟨A2, c2, rfl⟩ := hr.slice; have HR := Lib.hid hr.ims; have HB2 := Lib.hid (HBd.out.trans (hb.mono HBd.out.size)); have HL2 := Lib.hid (HLd.out.below hb); clear hr hb))
    obtain ⟨m, hm⟩ : ∃ m, m = (ofL kd l).length := ⟨_, rfl⟩
    have HM := Lib.hid hm
    rw [← hm]
    clear hm
    go_loopw [10, 11, 12, 13] (fun q pl ok i wr => ∃ k : Nat, k ≤ n ∧ i = .int .i64 k ∧ q = .int .i64 (ofL kd (l.take k)).length ∧ Fnd kd md nm l k pl ok ∧ Below w.heap.size w wr ∧ Ims wr (some ⟨b, off, none⟩) l ∧ Ims wr A2 (ofL kd l)) (fun _ _ _ i _ => n - (intOf i).toNat)
    case atStart => exact ⟨0, Nat.zero_le _, rfl, rfl, .inl ⟨rfl, rfl, rfl⟩, HB2.out, HL2.out, HR.out⟩
    case round =>
      obtain ⟨k, hk, rfl, rfl, hf, hb, hl2, hr2⟩ := hrel
      by_cases hlt : k < n
      · obtain ⟨x, hx⟩ : ∃ x, l[k]? = some x := ⟨_, List.getElem?_eq_getElem (by rw [← HN.out]; exact hlt)⟩
        obtain ⟨b, off, hA0, hbl, m0, m1, m2, m3, m4, m5, m6, m7, m8⟩ := hl2.nine hx
        injection hA0 with hA0; injection hA0 with e1 e2; subst e1; subst e2
        have hTk := ofL_take (kd := kd) hx
        have hqk := ofL_len kd l k
        have HLL := Lib.hid hl2
        have HRR := Lib.hid hr2
        have HB := Lib.hid hb
        have hpd := plc_drop (kd := kd) (m := md) (n := nm) hx (ofL kd (l.take k)).length
        by_cases e : (x.kind.toNat : Int) = kd
        · rw [if_pos e] at hTk hpd
          have hget := ofL_get hx e
          obtain ⟨b2, off2, hA2, hbl2, p0, p1, p2, p3, p4, p5, p6, p7, p8⟩ := hr2.nine hget
          subst hA2
          have hqm := (List.getElem?_eq_some_iff.1 hget).1
          rw [← HM.out] at hqm
          have hlen : (ofL kd (l.take (k + 1))).length = (ofL kd (l.take k)).length + 1 := by rw [hTk, List.length_append, List.length_singleton]
          have HTk := Lib.hid hlen
          obtain ⟨q, hq⟩ : ∃ q, q = (ofL kd (l.take k)).length := ⟨_, rfl⟩
          rw [← hq] at p0 p1 p2 p3 p4 p5 p6 p7 p8 hqm hpd HTk hqk ⊢
          have d1 : ((x.kind.toNat : Int) != kd) = false := by simpa using e
          have t3 : decide ((m : Int) ≤ (q : Int)) = false := decide_eq_false (by omega)
          have he : ∀ W, (binOp BinOp.neq 28 (imV x) (imV x)).run Tryd.prog W = .ok (.bool false) W := fun W => by rw [neq_im, decide_eq_true rfl]; rfl
          rcases hf with ⟨rfl, rfl, hp⟩ | ⟨cc, rfl, rfl, hp⟩
          · rw [← hq] at hp
            by_cases e2 : x.mod = md ∧ x.nam = nm
            · rw [if_pos e2] at hpd
              have HNew := Lib.hid (show Fnd kd md nm l (k + 1) (.int .i64 q) (.bool true) from .inr ⟨q, rfl, rfl, hp.trans hpd⟩)
              have d2 : ((S x.mod).toList == (S md).toList) = true := by  rw [S_beqM, decide_eq_true e2.1]
              have d3 : ((S x.nam).toList == (S nm).toList) = true := by  rw [S_beqM, decide_eq_true e2.2]
              clear e e2 hp hpd hTk hlen hq hb hl2 hr2 hget hx
              go_wp2
              go_quiet (fail)
              go_wp2
              go_roundw
              case rel => exact ⟨k + 1, by omega, by go_num, by rw [HTk.out]; go_num, HNew.out, below_drewN HB.out _, HLL.out.below (below_drewN (Below.refl _ _) _), HRR.out.below (below_drewN (Below.refl _ _) _)⟩
              case measure => simp [intOf]; omega
            · rw [if_neg e2] at hpd
              have HNew := Lib.hid (show Fnd kd md nm l (k + 1) (.int .i64 0) (.bool false) from .inl ⟨rfl, rfl, by rw [hlen, ← hq]; exact hp.trans hpd⟩)
              by_cases e3 : x.mod = md
              · have d2 : ((S x.mod).toList == (S md).toList) = true := by  rw [S_beqM, decide_eq_true e3]
                have d3 : ((S x.nam).toList == (S nm).toList) = false := by  rw [S_beqM, decide_eq_false (fun h => e2 ⟨e3, h⟩)]
                clear e e2 e3 hp hpd hTk hlen hq hb hl2 hr2 hget hx
                go_wp2
                go_quiet (fail)
                go_wp2
                go_roundw
                case rel => exact ⟨k + 1, by omega, by go_num, by rw [HTk.out]; go_num, HNew.out, below_drewN HB.out _, HLL.out.below (below_drewN (Below.refl _ _) _), HRR.out.below (below_drewN (Below.refl _ _) _)⟩
                case measure => simp [intOf]; omega
              · have d2 : ((S x.mod).toList == (S md).toList) = false := by  rw [S_beqM, decide_eq_false e3]
                clear e e2 e3 hp hpd hTk hlen hq hb hl2 hr2 hget hx
                go_wp2
                go_quiet (fail)
                go_wp2
                go_roundw
                case rel => exact ⟨k + 1, by omega, by go_num, by rw [HTk.out]; go_num, HNew.out, below_drewN HB.out _, HLL.out.below (below_drewN (Below.refl _ _) _), HRR.out.below (below_drewN (Below.refl _ _) _)⟩
                case measure => simp [intOf]; omega
          · have HNew := Lib.hid (show Fnd kd md nm l (k + 1) (.int .i64 cc) (.bool true) from .inr ⟨cc, rfl, rfl, hp⟩)
            clear e hp hpd hTk hlen hq hb hl2 hr2 hget hx
            go_wp2
            go_quiet (fail)
            go_wp2
            go_roundw
            case rel => exact ⟨k + 1, by omega, by go_num, by rw [HTk.out]; go_num, HNew.out, below_drewN HB.out _, HLL.out.below (below_drewN (Below.refl _ _) _), HRR.out.below (below_drewN (Below.refl _ _) _)⟩
            case measure => simp [intOf]; omega
        · rw [if_neg e] at hTk hpd
          have HTk := Lib.hid (congrArg List.length hTk)
          have d1 : ((x.kind.toNat : Int) != kd) = true := by simpa using e
          have hNew : ∀ pl ok, Fnd kd md nm l k pl ok → Fnd kd md nm l (k + 1) pl ok := fun pl ok h => h.elim (fun h => .inl ⟨h.1, h.2.1, by rw [hTk]; exact h.2.2.trans hpd⟩) .inr
          have HNew := Lib.hid (hNew _ _ hf)
          clear hNew
          generalize (ofL kd (l.take k)).length = q at *
          clear e hpd hTk hf hb hl2 hr2 hx
          go_wp2
          go_roundw
          case rel => exact ⟨k + 1, by omega, by go_num, by rw [HTk.out], HNew.out, HB.out, HLL.out, HRR.out⟩
          case measure => simp [intOf]; omega
      · obtain rfl : k = n := by omega
        rw [HNL.out.1, ← HM.out]
        have HB := Lib.hid hb
        have HP1 := Lib.hid (HPl.out _ hl2)
        have HC1 := Lib.hid (fun W (hb : Below wr.heap.size wr W) => HCt.out W (hl2.below hb))
        rw [← HM.out] at HC1
        rcases hf with ⟨rfl, rfl, hp⟩ | ⟨cc, rfl, rfl, hp⟩
        · rw [HNL.out.2] at hp
          have hn : an = none := by rw [HAn.out]; exact hp
          rw [hn] at HP1
          unfold plcV at HP1
          clear hp hn hb hl2 hr2 hlt
          go_wp2_with (first
            | (go_at_call 23; go_must ((with_reducible refine HP1.out.mono ?_); rintro e w5 ⟨rfl, hb⟩; have HB5 := Lib.hid hb; clear hb))
            | (go_at_call 24; go_must ((with_reducible refine (HC1.out _ HB5.out).mono ?_); rintro e w6 ⟨rfl, hb⟩; have HB6 := Lib.hid (HB5.out.trans (hb.mono HB5.out.size)); clear hb)))
          go_ret
          exact ⟨rfl, HB.out.trans (HB6.out.mono HB.out.size)⟩
        · have hn : an = some cc := by rw [HAn.out]; exact hp
          rw [hn] at HP1
          unfold plcV at HP1
          clear hp hn hb hl2 hr2 hlt
          go_wp2_with (first
            | (go_at_call 23; go_must ((with_reducible refine HP1.out.mono ?_); rintro e w5 ⟨rfl, hb⟩; have HB5 := Lib.hid hb; clear hb))
            | (go_at_call 24; go_must ((with_reducible refine (HC1.out _ HB5.out).mono ?_); rintro e w6 ⟨rfl, hb⟩; have HB6 := Lib.hid (HB5.out.trans (hb.mono HB5.out.size)); clear hb)))
          go_ret
          exact ⟨rfl, HB.out.trans (HB6.out.mono HB.out.size)⟩
  · obtain rfl : l = [] := List.eq_nil_of_length_eq_zero (by omega)
    have t2 : decide ((0 : Int) < (([] : List Im).length : Int)) = false := by decide
    have HO := Lib.hid (fun W (h : Ims W A ([] : List Im)) => of_im (c := c) kd h (by simp))
    have HCt := Lib.hid (fun W (h : Ims W A ([] : List Im)) => count_im (c := c) kd h (by simp))
    have HPl := Lib.hid (fun W (h : Ims W A ([] : List Im)) => show Calls Tryd.prog 23 #[.slice A ([] : List Im).length c, .int .u8 kd, .string { data := #[101, 110, 118] }, .string { data := #[102] }] W fun e w' => e = .returned (.tuple #[.int .i64 0, .bool false]) ∧ Below W.heap.size W w' from place_im (c := c) kd [101, 110, 118] [102] h (by simp))
    have hn0 : ([] : List Im).length = 0 := rfl
    have hof : (ofL kd []).length = 0 := rfl
    rw [hof] at HCt
    rw [hn0] at HO HCt HPl t1 t2 nl ⊢
    clear g1 g0 hn0
    go_enter Tryd.func5, Tryd.ntmps5
    go_wp2_with (first
      | (go_at_call 6; go_must ((with_reducible refine HAW.out.mono ?_); rintro e w1 ⟨rfl, hb⟩; have H1 := Lib.hid hb; have HL1 := Lib.hid (HL.out.below hb); clear hb))
      | (go_at_call 22; go_must ((with_reducible refine (HO.out _ HL1.out).mono ?_); intro e w2 h; obtain ⟨v, rfl, hr, hb⟩ := h; obtain ⟨A2, c2, rfl⟩ := hr.slice; have HB2 := Lib.hid (H1.out.trans (hb.mono H1.out.size)); have HL2 := Lib.hid (HL1.out.below hb); clear hr hb)))
    (try rw [hof])
    go_loopw [10, 11, 12, 13] (fun q pl ok i wr => i = .int .i64 0 ∧ q = .int .i64 0 ∧ pl = .int .i64 0 ∧ ok = .bool false ∧ Below w.heap.size w wr ∧ Ims wr A ([] : List Im)) (fun _ _ _ i _ => 0)
    case atStart => exact ⟨rfl, rfl, rfl, rfl, HB2.out, HL2.out⟩
    case round =>
      obtain ⟨rfl, rfl, rfl, rfl, hb, hl2⟩ := hrel
      have HB := Lib.hid hb
      have HLL := Lib.hid hl2
      clear hb hl2
      go_wp2_with (first
        | (go_at_call 23; go_must ((with_reducible refine (HPl.out _ HLL.out).mono ?_); rintro e w5 ⟨rfl, hb⟩; have HB5 := Lib.hid (HB.out.trans (hb.mono HB.out.size)); have HL5 := Lib.hid (HLL.out.below hb); clear hb))
        | (go_at_call 24; go_must ((with_reducible refine (HCt.out _ HL5.out).mono ?_); rintro e w6 ⟨rfl, hb⟩; have HB6 := Lib.hid (HB5.out.trans (hb.mono HB5.out.size)); clear hb)))
      go_ret
      exact ⟨rfl, HB6.out⟩
end Go.Proofs.YtdogjinjbnlgdaaDoor
