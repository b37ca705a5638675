/- bodies.PutAll. -/
import Derived.Test.YtebgmfjgapmpfabGreatDoorQf10
import Derived.Deep.LoopGhost
import Derived.Test.YtebgmfjgapmpfabGreatDoorQf05
import Derived.Test.YtebgmfjgapmpfabGreatDoorQf09
import Derived.RegionTactic
namespace Go.Proofs.YtebgmfjgapmpfabGreatDoor
open Go.RowKit
set_option linter.unusedVariables false
set_option maxRecDepth 100000

/-- May it be? Its bytes. -/
def rBd (x : SlotBd) : Int := brZ x.1
noncomputable def cputB (x : SlotBd) : List UInt8 := codeL x.1
def PuttedC (x : SlotBd) (w : World) (e : Ending) (w' : World) : Prop := ∃ v, e = .returned (.tuple #[v, .int .i64 (rBd x)]) ∧ Row w' w.heap.size v (if rBd x = 0 then cputB x else []) ∧ Below w.heap.size w w'
def OkBds (l : List SlotBd) : Prop := ∀ x ∈ l, BdOk x.1
theorem put_c (x : SlotBd) (w : World) (hT : Tabs w) (h : BdOk x.1) (hL : Los w x.2.1.1 x.1.ls) (hI : Ins w x.2.2.1 x.1.b) : Calls Tryz.prog 28 #[cV x] w (PuttedC x w) := put_bd hT hL hI h.h50 h.h60 h.ok100
/-- The first error. -/
def errBd : List SlotBd → Int
  | [] => 0
  | x :: r => if rBd x ≠ 0 then rBd x else errBd r
theorem errBd_app : ∀ a b : List SlotBd, errBd (a ++ b) = if errBd a ≠ 0 then errBd a else errBd b
  | [], b => by simp [errBd]
  | x :: a, b => by
    simp only [List.cons_append, errBd]
    by_cases h : rBd x = 0
    · simp only [h, ne_eq, not_true_eq_false, if_false, errBd_app a b]
    · simp [h]
theorem errBd_snoc {l : List SlotBd} {k : Nat} {x : SlotBd} (h : l[k]? = some x) : errBd (l.take (k + 1)) = if errBd (l.take k) ≠ 0 then errBd (l.take k) else rBd x := by
  rw [List.take_add_one, h]
  show errBd (l.take k ++ [x]) = _
  rw [errBd_app]
  by_cases e : rBd x = 0 <;> simp [errBd, e]
theorem errBd_bad {l : List SlotBd} {k : Nat} (h : errBd (l.take k) ≠ 0) : errBd l = errBd (l.take k) := by
  conv => lhs; rw [← List.take_append_drop k l]
  rw [errBd_app, if_pos h]
theorem errBd_mem : ∀ {l : List SlotBd}, errBd l = 0 → ∀ x ∈ l, rBd x = 0
  | [], _, x, hx => by cases hx
  | y :: l, h, x, hx => by
    simp only [errBd] at h
    by_cases e : rBd y = 0
    · simp only [e, ne_eq, not_true_eq_false, if_false] at h
      rcases List.mem_cons.1 hx with rfl | hx
      · exact e
      · exact errBd_mem h x hx
    · simp [e] at h
/-- Many bodies' bytes. -/
noncomputable def bdsL (l : List SlotBd) : List UInt8 := l.flatMap cputB
theorem bdsL_snoc {l : List SlotBd} {k : Nat} {x : SlotBd} (h : l[k]? = some x) : bdsL (l.take (k + 1)) = bdsL (l.take k) ++ cputB x := by
  unfold bdsL
  rw [List.take_add_one, h, List.flatMap_append]
  simp
theorem bdsL_len : ∀ {l : List SlotBd}, OkBds l → (bdsL l).length ≤ l.length * 36600
  | [], _ => by simp [bdsL]
  | x :: r, h => by
    have h1 := bdsL_len (l := r) (fun y hy => h y (List.mem_cons_of_mem _ hy))
    have h3 : (cputB x).length ≤ 36600 := codeL_len (h x (by simp))
    unfold bdsL at h1 ⊢
    rw [List.flatMap_cons, List.length_append, List.length_cons]
    omega
noncomputable def allBd (l : List SlotBd) : List UInt8 := lebL l.length ++ bdsL l
/-- What PutAll hands back. -/
def PuttedAllBd (l : List SlotBd) (w : World) (e : Ending) (w' : World) : Prop := ∃ v, e = .returned (.tuple #[v, .int .i64 (errBd l)]) ∧ Row w' w.heap.size v (if errBd l = 0 then allBd l else []) ∧ Below w.heap.size w w'
theorem cfBdP (a : Array Value) (w : World) : (callFunc 28 a).run Tryz.prog w = .ok (.enter 28 a) w := by kernel_rfl
set_option maxHeartbeats 4000000 in
theorem wputall_bd {w : World} {A : Option Addr} {c : Nat} {l : List SlotBd} (hl : Bds w A l) (hT : Tabs w) (hs : OkBds l) (h20 : l.length ≤ 20) :
    Calls Tryz.prog 33 #[.slice A l.length c, .func (.func 28) #[] #[]] w (PuttedAllBd l w) := by
  have HL := Lib.hid hl
  have HTb := Lib.hid hT
  have HSh := Lib.hid hs
  have hlb := lebL_len (l.length : Int) (by omega)
  have HZ := Lib.hid (fun W => size_w l.length W (by omega))
  obtain ⟨n, hn⟩ : ∃ n, n = l.length := ⟨_, rfl⟩
  obtain ⟨hd, hhd⟩ : ∃ hd, hd = lebL (l.length : Int) := ⟨_, rfl⟩
  rw [← hhd] at HZ hlb
  have HN := Lib.hid hn
  have HE := Lib.hid (show l.take n = l by rw [hn, List.take_length])
  have HAL := Lib.hid (show allBd l = hd ++ bdsL l by rw [hhd]; rfl)
  have HPL := Lib.hid (fun k => show (bdsL (l.take k)).length ≤ 20 * 36600 from by
    have h1 := bdsL_len (l := l.take k) (fun y hy => hs y (List.mem_of_mem_take hy))
    have h2 : (l.take k).length ≤ l.length := by rw [List.length_take]; omega
    omega)
  rw [← hn] at h20 HZ ⊢
  have d10 : decide ((10000 : Int) < (n : Int)) = false := decide_eq_false (by omega)
  have hcf := cfBdP
  clear hl hT hs hn hhd
  go_enter Tryz.func33, Tryz.ntmps33
  go_wp2_with (go_at_call 64; go_must ((with_reducible refine (HZ.out _).mono ?_); intro e w1 h; obtain ⟨v, rfl, hr, hb⟩ := h; have HR := Lib.hid hr; have HB := Lib.hid hb; clear hr hb))
  go_loopw [6, 19] (fun v i wr => ∃ k : Nat, k ≤ n ∧ i = .int .i64 k ∧ errBd (l.take k) = 0 ∧ Row wr w.heap.size v (hd ++ bdsL (l.take k)) ∧ Below w.heap.size w wr) (fun _ i _ => n - (intOf i).toNat)
  case atStart => exact ⟨0, Nat.zero_le _, rfl, rfl, by simpa [bdsL] using HR.out, HB.out⟩
  case round =>
    obtain ⟨k, hk, rfl, he, hr, hb⟩ := hrel
    have hz1 := hb.size
    by_cases hlt : k < n
    · obtain ⟨x, hx⟩ : ∃ x, l[k]? = some x := ⟨_, List.getElem?_eq_getElem (by rw [← HN.out]; exact hlt)⟩
      obtain ⟨b, off, rfl, hbl, m0, m1⟩ := (HL.out.below hb).two hx
      obtain ⟨_, hfl, hfi⟩ := (HL.out.below hb) k x hx
      have hxs := HSh.out x (List.mem_of_getElem? hx)
      have hTk := errBd_snoc hx
      have hPk := bdsL_snoc hx
      have HB2 := Lib.hid (hb.alloc hz1 (.cells (cC x) 28))
      have HR2 := Lib.hid (hr.alloc (.cells (cC x) 28))
      have HP := Lib.hid (put_c x (wr.alloc (.cells (cC x) 28)) (HTb.out.below HB2.out) hxs (hfl.below (below_box wr _)) (hfi.below (below_box wr _)))
      have hzb : wr.heap.size ≤ (wr.alloc (.cells (cC x) 28)).heap.size := (below_box wr _).size
      rw [he] at hTk
      simp only [ne_eq, not_true_eq_false, if_false] at hTk
      unfold PuttedC at HP
      have HTk := Lib.hid hTk
      have HPk := Lib.hid hPk
      by_cases z0 : rBd x = 0
      · rw [if_pos z0, z0] at HP
        have hil : (cputB x).length ≤ 36600 := codeL_len hxs
        have hsz : (hd ++ bdsL (l.take k)).length + (cputB x).length ≤ 1000000 := by
          have hpl := HPL.out k
          rw [List.length_append]
          omega
        have HSZ := Lib.hid hsz
        obtain ⟨y, hy⟩ : ∃ y, y = cputB x := ⟨_, rfl⟩
        rw [← hy] at HP HPk HSZ
        have HZ0 := Lib.hid z0
        clear hTk hPk he hr hb z0 hil hsz hy hxs hfl hfi
        go_wp2_with (first
          | (go_at_call 28; go_must ((with_reducible refine HP.out.mono ?_); intro e w3 h; obtain ⟨v3, rfl, hr3, hb3⟩ := h; obtain ⟨A3, c3, rfl, hp3⟩ := hr3.pc; have HP3 := Lib.hid hp3; have HR3 := Lib.hid (HR2.out.later hb3); have HB3 := Lib.hid (HB2.out.trans (hb3.mono HB2.out.size)); have hz3 := HB3.out.size; clear hr3 hb3 hp3))
          | (at_builtin; (refine row_any rfl _ _ rfl w.heap.size _ (hd ++ bdsL (l.take k)) rfl HR3.out A3 y.length c3 w3.heap.size y rfl rfl HP3.out.lies HP3.out.nil HSZ.out hz3 ?_; intro v4 w4 hr4 hb4; have HR4 := Lib.hid hr4; have HB4 := Lib.hid hb4; clear hr4 hb4)))
        go_roundw
        case rel => exact ⟨k + 1, by omega, by go_num, by rw [HTk.out]; exact HZ0.out, by rw [HPk.out, ← List.append_assoc]; exact HR4.out, HB3.out.trans HB4.out⟩
        case measure => simp [intOf]; omega
      · rw [if_neg z0] at HP
        have hbad := errBd_bad (l := l) (k := k + 1) (by rw [hTk]; exact z0)
        rw [hTk] at hbad
        have HBAD := Lib.hid hbad
        have dz : (rBd x != 0) = true := zb_of (by simpa using z0)
        have HZ0 := Lib.hid (show ¬ errBd l = 0 by rw [hbad]; exact z0)
        clear hTk hPk he hr hb z0 hbad hxs hfl hfi
        generalize rBd x = z at *
        go_wp2_with (go_at_call 28; go_must ((with_reducible refine HP.out.mono ?_); intro e w3 h; obtain ⟨v3, rfl, hr3, hb3⟩ := h; have HB3 := Lib.hid (HB2.out.trans (hb3.mono HB2.out.size)); clear hr3 hb3))
        go_ret2
        exact ⟨_, ret_pair HBAD.out.symm, by rw [if_neg HZ0.out]; exact Row.nil _ _, HB3.out⟩
    · obtain rfl : k = n := by omega
      rw [HE.out] at he
      rw [HE.out] at hr
      have HE2 := Lib.hid he
      have HR2 := Lib.hid hr
      have HB2 := Lib.hid hb
      clear hr hb he
      go_wp2
      go_ret2
      exact ⟨_, ret_pair HE2.out.symm, by rw [if_pos HE2.out, HAL.out]; exact HR2.out, HB2.out⟩
theorem putall_bd {w : World} {A : Option Addr} {c : Nat} {l : List SlotBd} (hl : Bds w A l) (hT : Tabs w) (hs : OkBds l) (h20 : l.length ≤ 20) :
    Calls Tryz.prog 11 #[.slice A l.length c] w (PuttedAllBd l w) := by
  have HP := Lib.hid (wputall_bd (c := c) hl hT hs h20)
  unfold PuttedAllBd at HP
  clear hl hT hs h20
  go_enter Tryz.func11, Tryz.ntmps11
  go_wp2_with (go_at_call 33; go_must ((with_reducible refine HP.out.mono ?_); intro e w1 h; obtain ⟨v, rfl, hr, hb⟩ := h; have HR := Lib.hid hr; have HB := Lib.hid hb; clear hr hb))
  go_ret2
  exact ⟨_, rfl, HR.out, HB.out⟩
end Go.Proofs.YtebgmfjgapmpfabGreatDoor

/- bodies.GetAll of what PutAll wrote. -/
namespace Go.Proofs.YtebgmfjgapmpfabGreatDoor
open Go.RowKit
set_option linter.unusedVariables false
set_option maxRecDepth 100000

theorem bdsL_at {l : List SlotBd} {k : Nat} {x : SlotBd} (h : l[k]? = some x) : bdsL l = bdsL (l.take k) ++ (codeL x.1 ++ bdsL (l.drop (k + 1))) := by
  have e1 : l = l.take k ++ x :: l.drop (k + 1) := by
    obtain ⟨hj3, hj4⟩ := List.getElem?_eq_some_iff.1 h
    rw [← hj4, ← List.drop_eq_getElem_cons hj3, List.take_append_drop]
  conv => lhs; rw [e1]
  unfold bdsL
  rw [List.flatMap_append, List.flatMap_cons]
  rfl
/-- What holds at the head of GetAll's loop. -/
structure AInBd (w : World) (p : Nat) (l : List UInt8) (k : Nat) (xs : List SlotBd) (v : Value) (W : World) : Prop where
  sc : Sc W p l k
  g : w.grownBy W (some p)
  r : RowBd W w.heap.size v xs
  tb : TbP p W
section
variable {w W W' : World} {p : Nat} {l : List UInt8} {k k' : Nat} {xs : List SlotBd} {x : SlotBd} {v v' : Value}
theorem AInBd.step (h : AInBd w p l k xs v W) (hp : p < w.heap.size) (hg : W.grownBy W' (some p)) (hs : Sc W' p l k') : AInBd w p l k' xs v W' :=
  ⟨hs, gb_trans h.g hg, h.r.past hg hp, h.tb.self hg⟩
theorem AInBd.alloc (h : AInBd w p l k xs v W) (hp : p < w.heap.size) (o : Obj) : AInBd w p l k xs v (W.alloc o) := h.step hp (gb_alloc (gb_refl _ _) o) (h.sc.alloc o)
theorem AInBd.more (h : AInBd w p l k xs v W) (hp : p < w.heap.size) (hg : W.grownBy W' v.ownBlock) (hr : RowBd W' w.heap.size v' (xs ++ [x])) : AInBd w p l k (xs ++ [x]) v' W' := by
  have hlt := h.r.lt
  exact ⟨h.sc.grown hg (fun e => by have := hlt p e.symm; omega) (fun g e => by have := hlt g e; omega), gb_before h.g hg (fun g e => .inr (hlt g e).1), hr, h.tb.grown hg (fun g e => by have := hlt g e; omega)⟩
end
/-- The list that was read. -/
def GotAllBd (p : Nat) (xs : List Bd) (w : World) (e : Ending) (w' : World) : Prop :=
  ∃ v rows, e = .returned v ∧ RowBd w' w.heap.size v rows ∧ rows.map (·.1) = xs ∧ w.grownBy w' (some p)
def GotItBd (p : Nat) (l : List UInt8) (xs : List Bd) (w : World) (e : Ending) (w' : World) : Prop :=
  ∃ v rows, e = .returned v ∧ RowBd w' w.heap.size v rows ∧ rows.map (·.1) = xs ∧ Sc w' p l l.length ∧ w.grownBy w' (some p)
theorem cfBdG (a : Array Value) (w : World) : (callFunc 38 a).run Tryz.prog w = .ok (.enter 38 a) w := by kernel_rfl
set_option maxHeartbeats 4000000 in
theorem wgetitems_bd {w : World} {p : Nat} {xs : List SlotBd} (h : Sc w p (allBd xs) 0) (hT : TbP p w) (ho : OkBds xs) (h0 : errBd xs = 0) (h20 : xs.length ≤ 20) :
    Calls Tryz.prog 68 #[.pointer (some ⟨p, 0, none⟩), .func (.func 38) #[] #[]] w (GotItBd p (allBd xs) (xs.map (·.1)) w) := by
  have hp := h.lt
  have hc := count_scan h
  have hd : (allBd xs).drop 0 = lebL (xs.length : Int) ++ bdsL xs := rfl
  have h1 := countR_at hd (by omega) (by omega)
  rw [Nat.zero_add] at h1
  have h2 := drop_past hd
  rw [Nat.zero_add] at h2
  rw [h1] at hc
  have hlen : (allBd xs).length = (lebL (xs.length : Int)).length + (bdsL xs).length := by unfold allBd; rw [List.length_append]
  have hbl := bdsL_len ho
  have hlb := lebL_len (xs.length : Int) (by omega)
  have hmax : (allBd xs).length ≤ 1000000 := by omega
  obtain ⟨n, hnn⟩ : ∃ n, n = xs.length := ⟨_, rfl⟩
  obtain ⟨k1, hk1⟩ : ∃ k1, k1 = (lebL (xs.length : Int)).length := ⟨_, rfl⟩
  rw [← hk1] at hc h2 hlen
  rw [← hnn] at hc h20
  have HC := Lib.hid hc
  have HT := Lib.hid hT
  have HD := Lib.hid h2
  have HO := Lib.hid ho
  have HE := Lib.hid (errBd_mem h0)
  have HN := Lib.hid hnn
  have HLE := Lib.hid hlen
  obtain ⟨L, hL⟩ : ∃ L, L = allBd xs := ⟨_, rfl⟩
  rw [← hL] at HC HD HLE hmax ⊢
  have hcf := cfBdG
  clear h hT hc hd h1 h2 ho h0 hlen hbl hlb hk1 hL hnn
  go_enter Tryz.func68, Tryz.ntmps68
  go_wp2_with (go_at_call 102; go_must ((with_reducible refine HC.out.mono ?_); rintro e w1 ⟨rfl, hs, hg⟩; have HS := Lib.hid hs; have HG := Lib.hid hg; clear hs hg))
  go_loopw [5, 8] (fun v i wr => ∃ (j : Nat) (rows : List SlotBd), j ≤ n ∧ i = .int .i64 j ∧ rows.map (·.1) = (xs.take j).map (·.1) ∧ AInBd w p L (k1 + (bdsL (xs.take j)).length) rows v wr) (fun _ i _ => n - (intOf i).toNat)
  case atStart => exact ⟨0, [], Nat.zero_le _, rfl, rfl, ⟨by simpa [bdsL] using HS.out, HG.out, RowBd.nil _ _, HT.out.self HG.out⟩⟩
  case round =>
    obtain ⟨j, rows, hj, rfl, hm, ha⟩ := hrel
    by_cases hlt : j < n
    · obtain ⟨x, hx⟩ : ∃ x, xs[j]? = some x := ⟨_, List.getElem?_eq_getElem (by rw [← HN.out]; exact hlt)⟩
      have hdj : L.drop (k1 + (bdsL (xs.take j)).length) = codeL x.1 ++ bdsL (xs.drop (j + 1)) := drop_past (by rw [HD.out]; exact bdsL_at hx)
      have hG := get_bd ha.sc ha.tb (HE.out x (List.mem_of_getElem? hx)) (HO.out x (List.mem_of_getElem? hx)) hmax hdj
      have hk2 : k1 + (bdsL (xs.take j)).length + (codeL x.1).length = k1 + (bdsL (xs.take (j + 1))).length := by
        rw [bdsL_snoc hx, List.length_append]
        show _ = k1 + (_ + (codeL x.1).length)
        omega
      rw [hk2] at hG
      have HGe := Lib.hid hG
      have HA := Lib.hid ha
      have hrl : rows.length = j := by have := congrArg List.length hm; rw [List.length_map, List.length_map, List.length_take, ← HN.out] at this; omega
      have hle : rows.length ≤ 10000 := by omega
      have HM := Lib.hid (show ∀ y : SlotBd, y.1 = x.1 → (rows ++ [y]).map (·.1) = (xs.take (j + 1)).map (·.1) from fun y hy => by
        rw [List.take_add_one, hx, List.map_append, List.map_append, hm]
        simp [hy])
      have hzr := ha.g.size
      obtain ⟨k2, hk2e⟩ : ∃ k2, k2 = k1 + (bdsL (xs.take (j + 1))).length := ⟨_, rfl⟩
      have HK2 := Lib.hid hk2e
      rw [← hk2e] at HGe
      clear ha hG hm hx hdj hk2 hrl hk2e
      go_wp2_with (first
        | (go_at_call 38; go_must ((with_reducible refine HGe.out.mono ?_); intro e w2 hq; obtain ⟨⟨y, ⟨A, c⟩, ⟨B, d⟩⟩, hyx, rfl, hh, hs, hg⟩ := hq; have HA2 := Lib.hid (HA.out.step hp hg hs); have hz2 := HA2.out.g.size; have HYX := Lib.hid hyx; have HX := Lib.hid (Whole.made w2 28 (cC (y, (A, c), (B, d)))); have HH := Lib.hid ((hh.mono hzr).later (below_box w2 (.cells (cC (y, (A, c), (B, d))) 28))); clear hs hg hh hyx))
        | (at_builtin; (refine rowBd_new rfl _ _ rfl w.heap.size _ rows rfl (HA2.out.alloc hp _).r w2.heap.size (y, (A, c), (B, d)) rfl HX.out HH.out hle (Nat.le_trans hz2 (below_box w2 _).size) ?_; intro v3 w3 hr3 hg3; have HA3 := Lib.hid ((HA2.out.alloc hp _).more hp hg3 hr3); clear hr3 hg3)))
      go_roundw
      case rel => exact ⟨j + 1, rows ++ [(y, (A, c), (B, d))], by omega, by go_num, HM.out _ HYX.out, by rw [← HK2.out]; exact HA3.out⟩
      case measure => simp [intOf]; omega
    · have hjn : j = xs.length := by rw [← HN.out]; omega
      rw [hjn, List.take_length] at hm ha
      rw [← HLE.out] at ha
      have HA := Lib.hid ha
      have HM := Lib.hid hm
      clear ha hm hjn
      go_wp2
      go_ret
      exact ⟨_, rows, rfl, HA.out.r, HM.out, HA.out.sc, HA.out.g⟩
theorem wgetall_bd {w : World} {p : Nat} {xs : List SlotBd} (h : Sc w p (allBd xs) 0) (hT : TbP p w) (ho : OkBds xs) (h0 : errBd xs = 0) (h20 : xs.length ≤ 20) :
    Calls Tryz.prog 37 #[.pointer (some ⟨p, 0, none⟩), .func (.func 38) #[] #[]] w (GotAllBd p (xs.map (·.1)) w) := by
  have hp := h.lt
  have HI := Lib.hid (wgetitems_bd h hT ho h0 h20)
  unfold GotItBd at HI
  clear h hT ho h0 h20
  go_enter Tryz.func37, Tryz.ntmps37
  go_wp2_with (first
    | (go_at_call 68; go_must ((with_reducible refine HI.out.mono ?_); intro e w1 hq; obtain ⟨v, rows, rfl, hr, hm, hs, hg⟩ := hq; have HR := Lib.hid hr; have HM := Lib.hid hm; have HG := Lib.hid hg; have HEn := Lib.hid (end_ok hs); clear hr hs hg hm))
    | (go_at_call 69; go_must ((with_reducible refine HEn.out.mono ?_); rintro e w2 ⟨rfl, m, rfl⟩)))
  go_ret
  exact ⟨_, rows, rfl, HR.out.past (gb_drewN (gb_refl _ (some p)) m) hp, HM.out, gb_trans HG.out (gb_drewN (gb_refl _ _) m)⟩
theorem getall_bd {w : World} {p : Nat} {xs : List SlotBd} (h : Sc w p (allBd xs) 0) (hT : TbP p w) (ho : OkBds xs) (h0 : errBd xs = 0) (h20 : xs.length ≤ 20) :
    Calls Tryz.prog 15 #[.pointer (some ⟨p, 0, none⟩)] w (GotAllBd p (xs.map (·.1)) w) := by
  have HP := Lib.hid (wgetall_bd h hT ho h0 h20)
  unfold GotAllBd at HP ⊢
  clear h hT ho h0 h20
  go_enter Tryz.func15, Tryz.ntmps15
  go_wp2_with (go_at_call 37; go_must ((with_reducible refine HP.out.mono ?_); intro e w1 hq; obtain ⟨v, rows, rfl, hr, hm, hg⟩ := hq; have HR := Lib.hid hr; have HG := Lib.hid hg; have HM := Lib.hid hm; clear hr hg hm))
  go_ret
  exact ⟨_, rows, rfl, HR.out, HM.out, HG.out⟩
end Go.Proofs.YtebgmfjgapmpfabGreatDoor

/- abort.Value of a function that ends well, whatever it hands back: []api.Code. Value of one that aborts. -/
namespace Go.Proofs.YtebgmfjgapmpfabGreatDoor
open Go.RowKit
set_option linter.unusedVariables false
set_option maxRecDepth 100000

theorem cfVBds (cap : Array Value) (w : World) : (callFunc 36 cap).run Tryz.prog w = .ok (.enter 36 cap) w := by kernel_rfl
section
variable {T : (Option Addr × Nat × Nat) → World → Prop}
/-- Value's own closure: what the step hands back lies in its cell. -/
theorem valClosBds {g : FuncId} {cap : Array Value} {b1 b4 q : Nat} {w : World} {z : Array Value} (hz : z.size = 1) (hcf : ∀ w : World, (callFunc g cap).run Tryz.prog w = .ok (.enter g cap) w)
    (h1 : Whole w b1 43 #[.func (.func g) #[] cap]) (h4 : Whole w b4 22 #[.slice none 0 0]) (hb : q < b4) (hT : ∀ x W W', T x W → W.grownBy W' (some b4) → T x W')
    (h : Calls Tryz.prog g cap w fun e w' => ∃ x, e = .returned (.slice x.1 x.2.1 x.2.2) ∧ T x w' ∧ w.grownBy w' (some q)) :
    Calls Tryz.prog 36 #[.pointer (some ⟨b1, 0, none⟩), .pointer (some ⟨b4, 0, none⟩)] w fun e w' =>
      e = .returned (.tuple #[]) ∧ ∃ x, T x w' ∧ Whole w' b4 22 #[.slice x.1 x.2.1 x.2.2] ∧ ∃ w1, w.grownBy w1 (some q) ∧ w1.grownBy w' (some b4) := by
  have hnil : ∀ w : World, (binOp BinOp.neq 43 (.func (.func g) #[] cap) .nilFunc).run Tryz.prog w = .ok (.bool true) w := fun _ => by kernel_rfl
  have c1 := h1.cell 0
  simp only [List.getElem?_toArray, List.getElem?_cons_zero] at c1
  have HH := Lib.hid h
  have H4 := Lib.hid h4
  have HT := Lib.hid hT
  clear h h1 h4 hT
  go_enter Tryz.func36, Tryz.ntmps36
  go_wp2_with fail
  refine HH.out.mono ?_
  rintro e w1 ⟨x, rfl, hs, hg⟩
  have HW := H4.out.grown hg (by simp only [ne_eq, Option.some.injEq]; omega)
  have k0 := HW.cell 0
  have f0 := HW.frozen 0
  simp only [List.getElem?_toArray, List.getElem?_cons_zero] at k0
  obtain ⟨p1, p2⟩ := put1 (u0 := .slice x.1 x.2.1 x.2.2) HW
  have F : Hid (T x (w1.setCell ⟨b4, 0, none⟩ (.slice x.1 x.2.1 x.2.2))) := HT.out _ _ _ hs p2
  have P1 := Lib.hid p1
  have P2 := Lib.hid p2
  have HG := Lib.hid hg
  clear p1 p2 hs hg HW hcf
  go_wp2_with fail
  go_end0
  exact ⟨rfl, x, F.out, P1.out, w1, HG.out, P2.out⟩
/-- What Value's closure leaves behind, seen from Value's beginning. -/
structure VSBds (T : (Option Addr × Nat × Nat) → World → Prop) (w : World) (q : Nat) (x : (Option Addr × Nat × Nat)) (w1 : World) : Prop where
  kept : T x w1
  grown : w.grownBy w1 (some q)
  val : Whole w1 (w.heap.size + 2) 22 #[.slice x.1 x.2.1 x.2.2]
  r2 : Whole w1 (w.heap.size + 1) 39 #[.int .i64 0, .int .i64 0]
/-- The world in which Value calls Out. -/
def vWorldBds (g : FuncId) (cap : Array Value) (w : World) : World :=
  ((w.alloc (.cells #[.func (.func g) #[] cap] 43)).alloc (.cells #[.int .i64 0, .int .i64 0] 39)).alloc (.cells #[.slice none 0 0] 22)
theorem vWorld_factsBds (g : FuncId) (cap : Array Value) (w : World) : (vWorldBds g cap w).heap.size = w.heap.size + 3 ∧ Whole (vWorldBds g cap w) w.heap.size 43 #[.func (.func g) #[] cap] ∧
    Whole (vWorldBds g cap w) (w.heap.size + 1) 39 #[.int .i64 0, .int .i64 0] ∧
    Whole (vWorldBds g cap w) (w.heap.size + 2) 22 #[.slice none 0 0] ∧ Below w.heap.size w (vWorldBds g cap w) := by
  have b1 := Whole.made w 43 #[.func (.func g) #[] cap]
  have b3 := Whole.made (w.alloc (.cells #[.func (.func g) #[] cap] 43)) 39 #[.int .i64 0, .int .i64 0]
  have b4 := Whole.made ((w.alloc (.cells #[.func (.func g) #[] cap] 43)).alloc (.cells #[.int .i64 0, .int .i64 0] 39)) 22 #[.slice none 0 0]
  simp only [World.size_alloc] at b3 b4
  exact ⟨by simp [vWorldBds], (b1.alloc _).alloc _, b3.alloc _, b4,
    (((Below.refl _ _).alloc (Nat.le_refl _) _).alloc (by simp) _).alloc (by simp; omega) _⟩
theorem value_outBds {g : FuncId} {cap : Array Value} {q : Nat} {w : World} (hcf : ∀ w : World, (callFunc g cap).run Tryz.prog w = .ok (.enter g cap) w) (hq : q < w.heap.size)
    (hT : ∀ x W W' b, w.heap.size ≤ b → b < w.heap.size + 4 → T x W → W.grownBy W' (some b) → T x W')
    (h : ∀ W, Below w.heap.size w W → w.heap.size + 4 ≤ W.heap.size → Calls Tryz.prog g cap W fun e w' => ∃ x, e = .returned (.slice x.1 x.2.1 x.2.2) ∧ T x w' ∧ W.grownBy w' (some q)) :
    Calls Tryz.prog 35 #[.func (.func 36) #[] #[.pointer (some ⟨w.heap.size, 0, none⟩), .pointer (some ⟨w.heap.size + 2, 0, none⟩)]] (vWorldBds g cap w) fun e w' => e = .returned (.agg #[.int .i64 0, .int .i64 0]) ∧ ∃ x, VSBds T w q x w' := by
  obtain ⟨hz, b1, b3, b4, hbe⟩ := vWorld_factsBds g cap w
  have b5 := Whole.made (vWorldBds g cap w) 39 #[.int .i64 0, .int .i64 0]
  have hbe2 : Below w.heap.size w ((vWorldBds g cap w).alloc (.cells #[.int .i64 0, .int .i64 0] 39)) := hbe.alloc (by omega) _
  have hc := valClosBds (T := T) (z := #[.slice none 0 0]) rfl hcf (b1.alloc (.cells #[.int .i64 0, .int .i64 0] 39)) (b4.alloc _) (by omega : q < w.heap.size + 2) (fun x W W' => hT x W W' _ (by omega) (by omega)) (h _ hbe2 (by rw [size_box]; omega))
  refine (out_any _ _ 0 0 (vWorldBds g cap w) (fun w1 => (∃ x, VSBds T w q x w1) ∧ Whole w1 (vWorldBds g cap w).heap.size 39 #[.int .i64 0, .int .i64 0]) (cfVBds _) (hc.mono ?_) (fun _ h => h.2)).mono ?_
  · rintro e w' ⟨rfl, x, hs, hv, w1, hg1, hg2⟩
    have hz2 : w.heap.size + 4 ≤ w1.heap.size := by have := hg1.size; simp only [World.size_alloc] at this; omega
    refine ⟨.inl ⟨rfl, rfl, rfl⟩, ⟨x, hs, ?_, hv, ?_⟩, ?_⟩
    · exact gb_before (gb_trans (gb_of_below (some q) hbe2) hg1) hg2 (fun g e => .inr (by injection e with e; omega))
    · exact ((b3.alloc _).grown hg1 (by simp only [ne_eq, Option.some.injEq]; omega)).grown hg2 (by simp only [ne_eq, Option.some.injEq]; omega)
    · exact (b5.grown hg1 (by simp only [ne_eq, Option.some.injEq]; omega)).grown hg2 (by simp only [ne_eq, Option.some.injEq]; omega)
  · rintro e w' ⟨rfl, w1, ⟨⟨x, hs⟩, _⟩, hg⟩
    rw [hz] at hg
    exact ⟨rfl, x, hT x _ _ _ (by omega) (by omega) hs.kept hg, gb_before hs.grown hg (fun g e => .inr (by injection e with e; omega)), hs.val.grown hg (by simp only [ne_eq, Option.some.injEq]; omega), hs.r2.grown hg (by simp only [ne_eq, Option.some.injEq]; omega)⟩

set_option maxHeartbeats 800000 in
/-- Value of a function that ends well. -/
theorem valueBds_ok {g : FuncId} {cap : Array Value} {q : Nat} {w : World} (hcf : ∀ w : World, (callFunc g cap).run Tryz.prog w = .ok (.enter g cap) w) (hq : q < w.heap.size)
    (hT : ∀ x W W' b, w.heap.size ≤ b → b < w.heap.size + 4 → T x W → W.grownBy W' (some b) → T x W')
    (h : ∀ W, Below w.heap.size w W → w.heap.size + 4 ≤ W.heap.size → Calls Tryz.prog g cap W fun e w' => ∃ x, e = .returned (.slice x.1 x.2.1 x.2.2) ∧ T x w' ∧ W.grownBy w' (some q)) :
    Calls Tryz.prog 13 #[.func (.func g) #[] cap] w fun e w' => ∃ x, e = .returned (.tuple #[.slice x.1 x.2.1 x.2.2, .agg #[.int .i64 0, .int .i64 0]]) ∧ T x w' ∧ w.grownBy w' (some q) := by
  have hv := value_outBds hcf hq hT h
  unfold vWorldBds at hv
  have HV := Lib.hid hv
  have HT := Lib.hid hT
  have hmf : ∀ (fn : Fn) (first cap : Array Value) (w : World), (Instr.makeFunc fn first cap).run Tryz.prog w = .ok (.func fn first cap) w := fun _ _ _ _ => rfl
  clear h hv hcf hT
  go_enter Tryz.func13, Tryz.ntmps13
  go_wp2_with (go_at_call 35; go_must (refine HV.out.mono ?_; rintro e w2 ⟨rfl, x, hl⟩; have k0 := fun o => (hl.val.alloc o).cell 0; have f8 := fun o => (hl.r2.alloc o).frozen 0; have f9 := fun o => (hl.r2.alloc o).frozen 1; have m8 := fun o => (hl.r2.alloc o).cell 0; have m9 := fun o => (hl.r2.alloc o).cell 1; simp only [List.getElem?_toArray, List.getElem?_cons_zero, List.getElem?_cons_succ] at k0 m8 m9; have hz := hl.grown.size; have HL := Lib.hid hl; clear hl))
  obtain ⟨p2, g2⟩ := put2 (u0 := .int .i64 0) (u1 := .int .i64 0) (HL.out.r2.alloc (.cells #[.int .i64 0, .int .i64 0] 39))
  have q8 := p2.cell 0
  have q9 := p2.cell 1
  simp only [List.getElem?_toArray, List.getElem?_cons_zero, List.getElem?_cons_succ] at q8 q9
  refine bodyPost_ret (v := .tuple #[.slice x.1 x.2.1 x.2.2, .agg #[.int .i64 0, .int .i64 0]]) (by simp [results, Tryz.results13, go_sem, q8, q9]) rfl ⟨x, rfl, ?_, ?_⟩
  · exact HT.out _ _ _ _ (by omega) (by omega) (HT.out _ _ _ w.heap.size (Nat.le_refl _) (by omega) HL.out.kept (gb_alloc (gb_refl _ _) _)) g2
  · exact gb_before (gb_alloc HL.out.grown _) g2 (fun g e => .inr (by injection e with e; omega))
end
/-- Value's own closure: what aborts goes on. -/
theorem valClosBdsE {g : FuncId} {cap : Array Value} {b1 b4 q : Nat} {w : World} {c a : Int} (hcf : ∀ w : World, (callFunc g cap).run Tryz.prog w = .ok (.enter g cap) w)
    (h1 : Whole w b1 43 #[.func (.func g) #[] cap])
    (h : Calls Tryz.prog g cap w fun e w' => e = .panicked (stopP c a) ∧ w.grownBy w' (some q)) :
    Calls Tryz.prog 36 #[.pointer (some ⟨b1, 0, none⟩), .pointer (some ⟨b4, 0, none⟩)] w fun e w' => e = .panicked (stopP c a) ∧ w.grownBy w' (some q) := by
  have hnil : ∀ w : World, (binOp BinOp.neq 43 (.func (.func g) #[] cap) .nilFunc).run Tryz.prog w = .ok (.bool true) w := fun _ => by kernel_rfl
  have c1 := h1.cell 0
  simp only [List.getElem?_toArray, List.getElem?_cons_zero] at c1
  have HH := Lib.hid h
  clear h h1
  go_enter Tryz.func36, Tryz.ntmps36
  go_wp2_with fail
  refine HH.out.mono ?_
  rintro e w1 ⟨rfl, hg⟩
  exact ⟨rfl, rfl, hg⟩
theorem value_outBdsE {g : FuncId} {cap : Array Value} {q : Nat} {w : World} {c a : Int} (hc : ¬ c = 0) (hcf : ∀ w : World, (callFunc g cap).run Tryz.prog w = .ok (.enter g cap) w) (hq : q < w.heap.size)
    (h : ∀ W, Below w.heap.size w W → w.heap.size + 4 ≤ W.heap.size → Calls Tryz.prog g cap W fun e w' => e = .panicked (stopP c a) ∧ W.grownBy w' (some q)) :
    Calls Tryz.prog 35 #[.func (.func 36) #[] #[.pointer (some ⟨w.heap.size, 0, none⟩), .pointer (some ⟨w.heap.size + 2, 0, none⟩)]] (vWorldBds g cap w) fun e w' => e = .returned (.agg #[.int .i64 c, .int .i64 a]) ∧
      w.grownBy w' (some q) ∧ w.heap.size + 3 ≤ w'.heap.size ∧ Whole w' (w.heap.size + 2) 22 #[.slice none 0 0] ∧ Whole w' (w.heap.size + 1) 39 #[.int .i64 0, .int .i64 0] := by
  obtain ⟨hz, b1, b3, b4, hbe⟩ := vWorld_factsBds g cap w
  have b5 := Whole.made (vWorldBds g cap w) 39 #[.int .i64 0, .int .i64 0]
  have hbe2 : Below w.heap.size w ((vWorldBds g cap w).alloc (.cells #[.int .i64 0, .int .i64 0] 39)) := hbe.alloc (by omega) _
  have hcl := valClosBdsE (b4 := w.heap.size + 2) hcf (b1.alloc (.cells #[.int .i64 0, .int .i64 0] 39)) (h _ hbe2 (by rw [size_box]; omega))
  refine (out_any _ _ c a (vWorldBds g cap w) (fun w1 => ((vWorldBds g cap w).alloc (.cells #[.int .i64 0, .int .i64 0] 39)).grownBy w1 (some q)) (cfVBds _) (hcl.mono ?_) (fun w1 hg => b5.grown hg (by simp only [ne_eq, Option.some.injEq]; omega))).mono ?_
  · rintro e w' ⟨rfl, hg⟩
    exact ⟨.inr ⟨hc, rfl⟩, hg⟩
  · rintro e w' ⟨rfl, w1, hg1, hg2⟩
    have z1 := hg1.size
    have z2 := hg2.size
    rw [size_box] at z1
    rw [hz] at hg2
    exact ⟨rfl, gb_before (gb_trans (gb_of_below (some q) hbe2) hg1) hg2 (fun g e => .inr (by injection e with e; omega)), by omega,
      ((b4.alloc _).grown hg1 (by simp only [ne_eq, Option.some.injEq]; omega)).grown hg2 (by simp only [ne_eq, Option.some.injEq]; omega),
      ((b3.alloc _).grown hg1 (by simp only [ne_eq, Option.some.injEq]; omega)).grown hg2 (by simp only [ne_eq, Option.some.injEq]; omega)⟩
set_option maxHeartbeats 4000000 in
/-- Value of a function that aborts. -/
theorem valueBdsE_any {g : FuncId} {cap : Array Value} {q : Nat} {w : World} {c a : Int} (hc : ¬ c = 0) (hcf : ∀ w : World, (callFunc g cap).run Tryz.prog w = .ok (.enter g cap) w) (hq : q < w.heap.size)
    (h : ∀ W, Below w.heap.size w W → w.heap.size + 4 ≤ W.heap.size → Calls Tryz.prog g cap W fun e w' => e = .panicked (stopP c a) ∧ W.grownBy w' (some q)) :
    Calls Tryz.prog 13 #[.func (.func g) #[] cap] w fun e w' => e = .returned (.tuple #[.slice none 0 0, .agg #[.int .i64 c, .int .i64 a]]) ∧ w.grownBy w' (some q) := by
  have hv := value_outBdsE hc hcf hq h
  unfold vWorldBds at hv
  have HV := Lib.hid hv
  have dc : (c == 0) = false := by simpa using hc
  have hmf : ∀ (fn : Fn) (first cap : Array Value) (w : World), (Instr.makeFunc fn first cap).run Tryz.prog w = .ok (.func fn first cap) w := fun _ _ _ _ => rfl
  clear h hv hcf hc
  go_enter Tryz.func13, Tryz.ntmps13
  go_wp2_with (go_at_call 35; go_must (refine HV.out.mono ?_; rintro e w2 ⟨rfl, hg, hz, hv, hr2⟩; have HL := Lib.hid (show w.grownBy w2 (some q) ∧ w.heap.size + 3 ≤ w2.heap.size ∧ Whole w2 (w.heap.size + 2) 22 #[.slice none 0 0] ∧ Whole w2 (w.heap.size + 1) 39 #[.int .i64 0, .int .i64 0] from ⟨hg, hz, hv, hr2⟩); clear hg hz hv hr2))
  generalize hW : w2.alloc (.cells #[.int .i64 c, .int .i64 a] 39) = W at *
  have hz2 := HL.out.2.1
  have k3 : Whole W (w.heap.size + 2) 22 #[.slice none 0 0] := by rw [← hW]; exact HL.out.2.2.1.alloc _
  have k2 : Whole W (w.heap.size + 1) 39 #[.int .i64 0, .int .i64 0] := by rw [← hW]; exact HL.out.2.2.2.alloc _
  have k5 : Whole W w2.heap.size 39 #[.int .i64 c, .int .i64 a] := by rw [← hW]; exact Whole.made _ _ _
  have hgW : w.grownBy W (some q) := by rw [← hW]; exact gb_alloc HL.out.1 _
  clear hW
  have K2 := Lib.hid k2
  have KG := Lib.hid hgW
  have v0 := k3.cell 0
  have s0 := k5.cell 0
  have s1 := k5.cell 1
  have n0 := k2.cell 0
  have n1 := k2.cell 1
  have g0 := k2.frozen 0
  have g1 := k2.frozen 1
  have e2 : ¬ w2.heap.size = w.heap.size + 1 := by omega
  simp only [List.getElem?_toArray, List.getElem?_cons_zero, List.getElem?_cons_succ] at v0 s0 s1 n0 n1
  clear k2 k3 k5 hgW
  go_region
  all_goals
    go_wp2
    obtain ⟨p2, j2⟩ := put2 (u0 := .int .i64 c) (u1 := .int .i64 a) K2.out
    have q8 := p2.cell 0
    have q9 := p2.cell 1
    simp only [List.getElem?_toArray, List.getElem?_cons_zero, List.getElem?_cons_succ] at q8 q9
    have hfin := gb_before KG.out j2 (fun g e => .inr (by injection e with e; omega))
    refine bodyPost_ret (v := .tuple #[.slice none 0 0, .agg #[.int .i64 c, .int .i64 a]]) (by simp [results, Tryz.results13, go_sem, q8, q9]) rfl ⟨rfl, ?_⟩
    first | exact hfin | exact gb_drew hfin | exact ⟨hfin.os, hfin.tape, hfin.output, hfin.size, hfin.block⟩
end Go.Proofs.YtebgmfjgapmpfabGreatDoor
