/- globals.PutAll. -/
import Derived.Test.YticgmfeihdankaaGreatDoorZm13
import Derived.Test.YticgmfeihdankaaGreatDoorZm11
import Derived.Deep.LoopGhost
import Derived.Test.YticgmfeihdankaaGreatDoorZm08
import Derived.RegionTactic
import Derived.Test.YticgmfeihdankaaGreatDoorZm12
import Derived.Test.YticgmfeihdankaaGreatDoorZm10
namespace Go.Proofs.YticgmfeihdankaaGreatDoor
open Go.RowKit
set_option linter.unusedVariables false
set_option maxRecDepth 100000

/-- May it be? Its bytes. -/
def rS (x : SlotG) : Int := rG x.1
noncomputable def sputL (x : SlotG) : List UInt8 := gputL x.1
def PuttedS (x : SlotG) (w : World) (e : Ending) (w' : World) : Prop := ∃ v, e = .returned (.tuple #[v, .int .i64 (rS x)]) ∧ Row w' w.heap.size v (if rS x = 0 then sputL x else []) ∧ Below w.heap.size w w'
/-- The numbers are what their kinds hold. -/
def OkG (l : List SlotG) : Prop := ∀ x ∈ l, x.1.i.Ok ∧ (x.1.i.l.length : Int) ≤ 9223372036854775807
theorem put_s (x : SlotG) (w : World) (hT : Tabs w) (h : x.1.i.Ok ∧ (x.1.i.l.length : Int) ≤ 9223372036854775807) : Calls Tryz.prog 17 #[sV x] w (PuttedS x w) := put_gl x.1 x.2.1 x.2.2 w h.1 hT h.2
theorem sputL_len {x : SlotG} (h : x.1.i.Ok ∧ (x.1.i.l.length : Int) ≤ 9223372036854775807) (h0 : rS x = 0) : 3 ≤ (sputL x).length ∧ (sputL x).length ≤ 34 := gputL_len h.1 h0
/-- The first error. -/
def errG : List SlotG → Int
  | [] => 0
  | x :: r => if rS x ≠ 0 then rS x else errG r
theorem errG_app : ∀ a b : List SlotG, errG (a ++ b) = if errG a ≠ 0 then errG a else errG b
  | [], b => by simp [errG]
  | x :: a, b => by
    simp only [List.cons_append, errG]
    by_cases h : rS x = 0
    · simp only [h, ne_eq, not_true_eq_false, if_false, errG_app a b]
    · simp [h]
theorem errG_snoc {l : List SlotG} {k : Nat} {x : SlotG} (h : l[k]? = some x) : errG (l.take (k + 1)) = if errG (l.take k) ≠ 0 then errG (l.take k) else rS x := by
  rw [List.take_add_one, h]
  show errG (l.take k ++ [x]) = _
  rw [errG_app]
  by_cases e : rS x = 0 <;> simp [errG, e]
theorem errG_bad {l : List SlotG} {k : Nat} (h : errG (l.take k) ≠ 0) : errG l = errG (l.take k) := by
  conv => lhs; rw [← List.take_append_drop k l]
  rw [errG_app, if_pos h]
theorem errG_mem : ∀ {l : List SlotG}, errG l = 0 → ∀ x ∈ l, rS x = 0
  | [], _, x, hx => by cases hx
  | y :: l, h, x, hx => by
    simp only [errG] at h
    by_cases e : rS y = 0
    · simp only [e, ne_eq, not_true_eq_false, if_false] at h
      rcases List.mem_cons.1 hx with rfl | hx
      · exact e
      · exact errG_mem h x hx
    · simp [e] at h
/-- Many globals' bytes. -/
noncomputable def gputsL (l : List SlotG) : List UInt8 := l.flatMap sputL
theorem gputsL_snoc {l : List SlotG} {k : Nat} {x : SlotG} (h : l[k]? = some x) : gputsL (l.take (k + 1)) = gputsL (l.take k) ++ sputL x := by
  unfold gputsL
  rw [List.take_add_one, h, List.flatMap_append]
  simp
theorem gputsL_len : ∀ {l : List SlotG}, OkG l → errG l = 0 → (gputsL l).length ≤ l.length * 34
  | [], _, _ => by simp [gputsL]
  | x :: r, h, h0 => by
    have h4 := errG_mem h0 x (by simp)
    have h5 : errG r = 0 := by simpa [errG, h4] using h0
    have h1 := gputsL_len (l := r) (fun y hy => h y (List.mem_cons_of_mem _ hy)) h5
    have h2 := h x (by simp)
    have h3 := (sputL_len h2 h4).2
    unfold gputsL at h1 ⊢
    rw [List.flatMap_cons, List.length_append, List.length_cons]
    omega
noncomputable def allG (l : List SlotG) : List UInt8 := lebL l.length ++ gputsL l
/-- What PutAll hands back. -/
def PuttedAllG (l : List SlotG) (w : World) (e : Ending) (w' : World) : Prop := ∃ v, e = .returned (.tuple #[v, .int .i64 (errG l)]) ∧ Row w' w.heap.size v (if errG l = 0 then allG l else []) ∧ Below w.heap.size w w'
theorem cfGP (a : Array Value) (w : World) : (callFunc 17 a).run Tryz.prog w = .ok (.enter 17 a) w := by kernel_rfl
set_option maxHeartbeats 4000000 in
theorem wputall_gl {w : World} {A : Option Addr} {c : Nat} {l : List SlotG} (hl : Gs w A l) (hT : Tabs w) (hs : OkG l) (h20 : l.length ≤ 1000) :
    Calls Tryz.prog 32 #[.slice A l.length c, .func (.func 17) #[] #[]] w (PuttedAllG l w) := by
  have HL := Lib.hid hl
  have HTb := Lib.hid hT
  have HSh := Lib.hid hs
  have hlb := lebL_len (l.length : Int) (by omega)
  have HZ := Lib.hid (fun W => size_w l.length W (by omega))
  obtain ⟨n, hn⟩ : ∃ n, n = l.length := ⟨_, rfl⟩
  obtain ⟨hd, hhd⟩ : ∃ hd, hd = lebL (l.length : Int) := ⟨_, rfl⟩
  rw [← hhd] at HZ hlb
  have HN := Lib.hid hn
  have HE := Lib.hid (show l.take n = l by rw [hn, List.take_length])
  have HAL := Lib.hid (show allG l = hd ++ gputsL l by rw [hhd]; rfl)
  have HPL := Lib.hid (fun k (h : errG (l.take k) = 0) => show (gputsL (l.take k)).length ≤ 1000 * 34 from by
    have h1 := gputsL_len (l := l.take k) (fun y hy => hs y (List.mem_of_mem_take hy)) h
    have h2 : (l.take k).length ≤ l.length := by rw [List.length_take]; omega
    omega)
  rw [← hn] at h20 HZ ⊢
  have d10 : decide ((10000 : Int) < (n : Int)) = false := decide_eq_false (by omega)
  have hcf := cfGP
  clear hl hT hs hn hhd
  go_enter Tryz.func32, Tryz.ntmps32
  go_wp2_with (go_at_call 50; go_must ((with_reducible refine (HZ.out _).mono ?_); intro e w1 h; obtain ⟨v, rfl, hr, hb⟩ := h; have HR := Lib.hid hr; have HB := Lib.hid hb; clear hr hb))
  go_loopw [6, 19] (fun v i wr => ∃ k : Nat, k ≤ n ∧ i = .int .i64 k ∧ errG (l.take k) = 0 ∧ Row wr w.heap.size v (hd ++ gputsL (l.take k)) ∧ Below w.heap.size w wr) (fun _ i _ => n - (intOf i).toNat)
  case atStart => exact ⟨0, Nat.zero_le _, rfl, rfl, by simpa [gputsL] using HR.out, HB.out⟩
  case round =>
    obtain ⟨k, hk, rfl, he, hr, hb⟩ := hrel
    have hz1 := hb.size
    by_cases hlt : k < n
    · obtain ⟨x, hx⟩ : ∃ x, l[k]? = some x := ⟨_, List.getElem?_eq_getElem (by rw [← HN.out]; exact hlt)⟩
      obtain ⟨b, off, rfl, hbl, m0, m1, m2, m3, m4, m5⟩ := (HL.out.below hb).six hx
      have hxs := HSh.out x (List.mem_of_getElem? hx)
      have hTk := errG_snoc hx
      have hPk := gputsL_snoc hx
      have HB2 := Lib.hid (hb.alloc hz1 (.cells (sC x) 46))
      have HR2 := Lib.hid (hr.alloc (.cells (sC x) 46))
      have HP := Lib.hid (put_s x (wr.alloc (.cells (sC x) 46)) (HTb.out.below HB2.out) hxs)
      have hzb : wr.heap.size ≤ (wr.alloc (.cells (sC x) 46)).heap.size := (below_box wr _).size
      rw [he] at hTk
      simp only [ne_eq, not_true_eq_false, if_false] at hTk
      unfold PuttedS at HP
      have HTk := Lib.hid hTk
      have HPk := Lib.hid hPk
      by_cases z0 : rS x = 0
      · rw [if_pos z0, z0] at HP
        have hil := sputL_len hxs z0
        have hsz : (hd ++ gputsL (l.take k)).length + (sputL x).length ≤ 1000000 := by
          have hpl := HPL.out k he
          rw [List.length_append]
          omega
        have HIL := Lib.hid hil
        have HSZ := Lib.hid hsz
        obtain ⟨y, hy⟩ : ∃ y, y = sputL x := ⟨_, rfl⟩
        rw [← hy] at HP HPk HIL HSZ
        have HZ0 := Lib.hid z0
        clear hTk hPk he hr hb z0 hil hsz hy hxs
        go_wp2_with (first
          | (go_at_call 17; go_must ((with_reducible refine HP.out.mono ?_); intro e w3 h; obtain ⟨v3, rfl, hr3, hb3⟩ := h; obtain ⟨A3, c3, rfl, hp3⟩ := hr3.pc; have HP3 := Lib.hid hp3; have HR3 := Lib.hid (HR2.out.later hb3); have HB3 := Lib.hid (HB2.out.trans (hb3.mono HB2.out.size)); have hz3 := HB3.out.size; clear hr3 hb3 hp3))
          | (at_builtin; (refine row_any rfl _ _ rfl w.heap.size _ (hd ++ gputsL (l.take k)) rfl HR3.out A3 y.length c3 w3.heap.size y rfl rfl HP3.out.lies HP3.out.nil HSZ.out hz3 ?_; intro v4 w4 hr4 hb4; have HR4 := Lib.hid hr4; have HB4 := Lib.hid hb4; clear hr4 hb4)))
        go_roundw
        case rel => exact ⟨k + 1, by omega, by go_num, by rw [HTk.out]; exact HZ0.out, by rw [HPk.out, ← List.append_assoc]; exact HR4.out, HB3.out.trans HB4.out⟩
        case measure => simp [intOf]; omega
      · rw [if_neg z0] at HP
        have hbad := errG_bad (l := l) (k := k + 1) (by rw [hTk]; exact z0)
        rw [hTk] at hbad
        have HBAD := Lib.hid hbad
        have dz : (rS x != 0) = true := zb_of (by simpa using z0)
        have HZ0 := Lib.hid (show ¬ errG l = 0 by rw [hbad]; exact z0)
        clear hTk hPk he hr hb z0 hbad hxs
        generalize rS x = z at *
        go_wp2_with (go_at_call 17; go_must ((with_reducible refine HP.out.mono ?_); intro e w3 h; obtain ⟨v3, rfl, hr3, hb3⟩ := h; have HB3 := Lib.hid (HB2.out.trans (hb3.mono HB2.out.size)); clear hr3 hb3))
        go_ret2
        exact ⟨_, ret_pair HBAD.out.symm, by rw [if_neg HZ0.out]; exact Row.nil _ _, HB3.out⟩
    · obtain rfl : k = n := by omega
      rw [HE.out] at he
      rw [HE.out] at hr
      have HE2 := Lib.hid he
      have HR2 := Lib.hid hr
      have HB2 := Lib.hid hb
      clear hr hb he
      go_wp2
      go_ret2
      exact ⟨_, ret_pair HE2.out.symm, by rw [if_pos HE2.out, HAL.out]; exact HR2.out, HB2.out⟩
theorem putall_gl {w : World} {A : Option Addr} {c : Nat} {l : List SlotG} (hl : Gs w A l) (hT : Tabs w) (hs : OkG l) (h20 : l.length ≤ 1000) :
    Calls Tryz.prog 15 #[.slice A l.length c] w (PuttedAllG l w) := by
  have HP := Lib.hid (wputall_gl (c := c) hl hT hs h20)
  unfold PuttedAllG at HP
  clear hl hT hs h20
  go_enter Tryz.func15, Tryz.ntmps15
  go_wp2_with (go_at_call 32; go_must ((with_reducible refine HP.out.mono ?_); intro e w1 h; obtain ⟨v, rfl, hr, hb⟩ := h; have HR := Lib.hid hr; have HB := Lib.hid hb; clear hr hb))
  go_ret2
  exact ⟨_, rfl, HR.out, HB.out⟩
end Go.Proofs.YticgmfeihdankaaGreatDoor

/- globals.GetAll of any bytes; the laws' closures. -/
namespace Go.Proofs.YticgmfeihdankaaGreatDoor
open Go.RowKit
set_option linter.unusedVariables false
set_option maxRecDepth 100000

/-- Globals, one behind the other, behind those that are read. -/
noncomputable def gsK (l : List UInt8) : Nat → Nat → List Gl → Res (List Gl)
  | 0, q, acc => .ok acc q
  | n + 1, q, acc => (gR l q).bind fun x q2 => gsK l n q2 (acc ++ [x])
theorem gsK_more {l : List UInt8} {n j q : Nat} {acc : List Gl} (h : j < n) : gsK l (n - j) q acc = (gR l q).bind fun x q2 => gsK l (n - (j + 1)) q2 (acc ++ [x]) := by
  rw [show n - j = n - (j + 1) + 1 by omega]; rfl
/-- A list, and its end. -/
noncomputable def allR (l : List UInt8) (k : Nat) : Res (List Gl) := (countR l k).bind fun n k1 => (gsK l n.toNat k1 []).bind fun xs k2 => if k2 < l.length then .err 14 k2 else .ok xs k2
/-- What holds at the head of GetAll's loop. -/
structure AInG (w : World) (p : Nat) (l : List UInt8) (k : Nat) (xs : List SlotG) (v : Value) (W : World) : Prop where
  sc : Sc W p l k
  g : w.grownBy W (some p)
  r : RowG W w.heap.size v xs
  tb : TbP p W
section
variable {w W W' : World} {p : Nat} {l : List UInt8} {k k' : Nat} {xs : List SlotG} {x : SlotG} {v v' : Value}
theorem AInG.step (h : AInG w p l k xs v W) (hp : p < w.heap.size) (hg : W.grownBy W' (some p)) (hs : Sc W' p l k') : AInG w p l k' xs v W' :=
  ⟨hs, gb_trans h.g hg, h.r.past hg hp, h.tb.self hg⟩
theorem AInG.alloc (h : AInG w p l k xs v W) (hp : p < w.heap.size) (o : Obj) : AInG w p l k xs v (W.alloc o) := h.step hp (gb_alloc (gb_refl _ _) o) (h.sc.alloc o)
theorem AInG.more (h : AInG w p l k xs v W) (hp : p < w.heap.size) (hg : W.grownBy W' v.ownBlock) (hr : RowG W' w.heap.size v' (xs ++ [x])) : AInG w p l k (xs ++ [x]) v' W' := by
  have hlt := World.ownsRow.lt h.r
  exact ⟨h.sc.grown hg (fun e => by have := hlt p e.symm; omega) (fun g e => by have := hlt g e; omega), gb_before h.g hg (fun g e => .inr (hlt g e).1), hr, h.tb.grown hg (fun g e => by have := hlt g e; omega)⟩
end
/-- The list that was read. -/
def GotAllG (p : Nat) (l : List UInt8) (r : Res (List Gl)) (w : World) (e : Ending) (w' : World) : Prop := match r with
  | .ok xs k => ∃ v rows, e = .returned v ∧ RowG w' w.heap.size v rows ∧ rows.map (·.1) = xs ∧ Sc w' p l k ∧ w.grownBy w' (some p)
  | .err c a => e = .panicked (stopP c a) ∧ w.grownBy w' (some p)
theorem cfGG (a : Array Value) (w : World) : (callFunc 22 a).run Tryz.prog w = .ok (.enter 22 a) w := by kernel_rfl
set_option maxHeartbeats 4000000 in
theorem wgetall_gl {w : World} {p : Nat} {l : List UInt8} {k0 : Nat} (h : Sc w p l k0) (hT : TbP p w) :
    Calls Tryz.prog 21 #[.pointer (some ⟨p, 0, none⟩), .func (.func 22) #[] #[]] w (GotAllG p l (allR l k0) w) := by
  have hp := h.lt
  have hc := count_scan h
  have HT := Lib.hid hT
  have hcf := cfGG
  unfold allR
  cases hr : countR l k0 with
  | err c a =>
    rw [hr] at hc
    rw [Res.bind_err]
    have HC := Lib.hid hc
    clear h hT hc hr
    go_enter Tryz.func21, Tryz.ntmps21
    go_wp2_with (go_at_call 39; go_must ((with_reducible refine HC.out.mono ?_); rintro e w1 ⟨rfl, hg⟩; have HG := Lib.hid hg; clear hg))
    exact ⟨rfl, rfl, HG.out⟩
  | ok c k1 =>
    rw [hr] at hc
    rw [Res.bind_ok]
    obtain ⟨v0, v1⟩ := countR_ok hr
    obtain ⟨n, rfl⟩ : ∃ n : Nat, c = n := ⟨c.toNat, by omega⟩
    rw [Int.toNat_natCast]
    have HC := Lib.hid hc
    obtain ⟨R, hR⟩ : ∃ R, R = gsK l n k1 [] := ⟨_, rfl⟩
    rw [← hR]
    have HR := Lib.hid hR
    obtain ⟨T, hTe⟩ : ∃ T, T = R.bind fun xs k2 => if k2 < l.length then .err 14 k2 else .ok xs k2 := ⟨_, rfl⟩
    rw [← hTe]
    have HTE := Lib.hid hTe
    clear h hT hc hr hR hTe
    go_enter Tryz.func21, Tryz.ntmps21
    go_wp2_with (go_at_call 39; go_must ((with_reducible refine HC.out.mono ?_); rintro e w1 ⟨rfl, hs, hg⟩; have HS := Lib.hid hs; have HG := Lib.hid hg; clear hs hg))
    go_loopw [5, 8] (fun v i wr => ∃ (j k : Nat) (rows : List SlotG), j ≤ n ∧ i = .int .i64 j ∧ rows.length = j ∧ AInG w p l k rows v wr ∧ gsK l (n - j) k (rows.map (·.1)) = R) (fun _ i _ => n - (intOf i).toNat)
    case atStart => exact ⟨0, k1, [], Nat.zero_le _, rfl, rfl, ⟨HS.out, HG.out, RowG.nil _ _, HT.out.self HG.out⟩, HR.out.symm⟩
    case round =>
      obtain ⟨j, k, rows, hj, rfl, hlen, ha, hgs⟩ := hrel
      by_cases hlt : j < n
      · rw [gsK_more hlt] at hgs
        have hG := get_gl ha.sc ha.tb
        cases hg1 : gR l k with
        | err c a =>
          rw [hg1] at hG hgs
          rw [Res.bind_err] at hgs
          have HGe := Lib.hid hG
          have HA := Lib.hid ha
          have HRE := Lib.hid (show T = .err c a by rw [HTE.out, ← hgs, Res.bind_err])
          clear ha hG hg1 hlen hgs
          go_wp2_with (go_at_call 22; go_must ((with_reducible refine HGe.out.mono ?_); rintro e w2 ⟨rfl, hg⟩; have HG2 := Lib.hid hg; clear hg))
          exact ⟨rfl, by rw [HRE.out]; exact ⟨rfl, gb_trans HA.out.g HG2.out⟩⟩
        | ok x k2 =>
          rw [hg1] at hG hgs
          rw [Res.bind_ok] at hgs
          have HGe := Lib.hid (show Calls Tryz.prog 22 #[.pointer (some ⟨p, 0, none⟩)] wr (fun e w' => ∃ A c, e = .returned (glV x A c) ∧ Sc w' p l k2 ∧ wr.grownBy w' (some p)) from hG)
          have HA := Lib.hid ha
          have HGS := Lib.hid hgs
          have hle : rows.length ≤ 10000 := by omega
          have HLEN := Lib.hid hlen
          clear ha hG hg1 hgs hlen
          go_wp2_with (first
            | (go_at_call 22; go_must ((with_reducible refine HGe.out.mono ?_); intro e w2 hq; obtain ⟨A, c, rfl, hs, hg⟩ := hq; have HA2 := Lib.hid (HA.out.step hp hg hs); have hz2 := HA2.out.g.size; have HX := Lib.hid (Whole.made w2 46 (sC (x, A, c))); clear hs hg))
            | (at_builtin; (refine rowG_new rfl _ _ rfl w.heap.size _ rows rfl (HA2.out.alloc hp _).r w2.heap.size (x, A, c) rfl HX.out hle (Nat.le_trans hz2 (below_box w2 _).size) ?_; intro v3 w3 hr3 hg3; have HA3 := Lib.hid ((HA2.out.alloc hp _).more hp hg3 hr3); clear hr3 hg3)))
          go_roundw
          case rel => exact ⟨j + 1, k2, rows ++ [(x, A, c)], by omega, by go_num, by rw [List.length_append, HLEN.out, List.length_singleton], HA3.out, by rw [List.map_append]; exact HGS.out⟩
          case measure => simp [intOf]; omega
      · obtain rfl : j = n := by omega
        rw [Nat.sub_self] at hgs
        have HA := Lib.hid ha
        by_cases hk : k < l.length
        · have HRE := Lib.hid (show T = .err 14 k by rw [HTE.out, ← hgs, show gsK l 0 k (rows.map (·.1)) = .ok (rows.map (·.1)) k from rfl, Res.bind_ok, if_pos hk])
          have HEn := Lib.hid (end_bad ha.sc hk)
          clear ha hgs
          go_wp2_with (go_at_call 40; go_must ((with_reducible refine HEn.out.mono ?_); rintro e w2 ⟨rfl, hg⟩; have HG2 := Lib.hid hg; clear hg))
          exact ⟨rfl, by rw [HRE.out]; exact ⟨rfl, gb_trans HA.out.g HG2.out⟩⟩
        · have HRE := Lib.hid (show T = .ok (rows.map (·.1)) k by rw [HTE.out, ← hgs, show gsK l 0 k (rows.map (·.1)) = .ok (rows.map (·.1)) k from rfl, Res.bind_ok, if_neg hk])
          have hle := ha.sc.le.1
          obtain rfl : k = l.length := by omega
          have HEn := Lib.hid (end_ok ha.sc)
          clear ha hk hgs
          go_wp2_with (go_at_call 40; go_must ((with_reducible refine HEn.out.mono ?_); rintro e w2 ⟨rfl, m, rfl⟩))
          go_ret
          have HA2 := HA.out.step hp (gb_drewN (gb_refl _ _) m) (HA.out.sc.drewN m)
          rw [HRE.out]
          exact ⟨_, rows, rfl, HA2.r, rfl, HA2.sc, HA2.g⟩
theorem getall_gl {w : World} {p : Nat} {l : List UInt8} {k0 : Nat} (h : Sc w p l k0) (hT : TbP p w) :
    Calls Tryz.prog 9 #[.pointer (some ⟨p, 0, none⟩)] w (GotAllG p l (allR l k0) w) := by
  have HP := wgetall_gl h hT
  clear h hT
  cases hr : allR l k0 with
  | err c a =>
    rw [hr] at HP
    have HP := Lib.hid HP
    clear hr
    go_enter Tryz.func9, Tryz.ntmps9
    go_wp2_with (go_at_call 21; go_must ((with_reducible refine HP.out.mono ?_); rintro e w1 ⟨rfl, hg⟩; have HG := Lib.hid hg; clear hg))
    exact ⟨rfl, rfl, HG.out⟩
  | ok xs k =>
    rw [hr] at HP
    have HP := Lib.hid (show Calls Tryz.prog 21 #[.pointer (some ⟨p, 0, none⟩), .func (.func 22) #[] #[]] w (fun e w' => ∃ v rows, e = .returned v ∧ RowG w' w.heap.size v rows ∧ rows.map (·.1) = xs ∧ Sc w' p l k ∧ w.grownBy w' (some p)) from HP)
    clear hr
    go_enter Tryz.func9, Tryz.ntmps9
    go_wp2_with (go_at_call 21; go_must ((with_reducible refine HP.out.mono ?_); intro e w1 hq; obtain ⟨v, rows, rfl, hr, hm, hs, hg⟩ := hq; have HR := Lib.hid hr; have HS := Lib.hid hs; have HG := Lib.hid hg; have HM := Lib.hid hm; clear hr hs hg hm))
    go_ret
    exact ⟨_, rows, rfl, HR.out, HM.out, HS.out, HG.out⟩
end Go.Proofs.YticgmfeihdankaaGreatDoor

/- slices.Equal of labels; instr.Same; the reference's Same. -/
namespace Go.Proofs.YticgmfeihdankaaGreatDoor
open Go.RowKit
set_option linter.unusedVariables false
set_option maxRecDepth 100000

def LiesL (w : World) (A : Option Addr) (l : List Int) : Prop := Lies w w.heap.size A (cells32 l)
theorem LiesL.below {w w' : World} {A : Option Addr} {l : List Int} (h : LiesL w A l) (hb : Below w.heap.size w w') : LiesL w' A l := (Lies.below h hb (Nat.le_refl _)).more hb.size
theorem LiesL.at {w : World} {A : Option Addr} {l : List Int} (h : LiesL w A l) {i : Nat} {d : Int} (hd : l[i]? = some d) : ∃ b off, A = some ⟨b, off, none⟩ ∧ b < w.heap.size ∧ w.cell? ⟨b, off + i, none⟩ = some (.int .u32 d) := by
  obtain ⟨b, off, e, hb, hc⟩ := h i _ (cells32_get hd)
  exact ⟨b, off, e, hb, hc⟩
/-- The first k of two lists are the same. -/
def Eqs (a b : List Int) (k : Nat) : Prop := ∀ j, j < k → a[j]? = b[j]?
theorem Eqs.all {a b : List Int} {n : Nat} (h : Eqs a b n) (ha : a.length = n) (hb : b.length = n) : a = b := by
  apply List.ext_getElem?
  intro j
  rcases Nat.lt_or_ge j n with g | g
  · exact h j g
  · rw [List.getElem?_eq_none (by omega), List.getElem?_eq_none (by omega)]
def BoolPost (p : Bool) (w : World) (e : Ending) (w' : World) : Prop := e = .returned (.bool p) ∧ Below w.heap.size w w'
/-- Are two instructions the same? -/
def sameZ (i k : I) : Bool := decide (i.op = k.op) && decide (i.a = k.a) && decide (i.b = k.b) && decide (i.l = k.l)
theorem below_twoI (w : World) (i k : I) (A B : Option Addr) (c d : Nat) : Below w.heap.size w ((w.alloc (.cells (insC i A c) 44)).alloc (.cells (insC k B d) 44)) := (below_box w _).alloc (by simp) _
theorem same_no {i k : I} {w W : World} (h : ¬ (i.op = k.op ∧ i.a = k.a ∧ i.b = k.b ∧ i.l = k.l)) (hb : Below w.heap.size w W) : BoolPost (sameZ i k) w (.returned (.bool false)) W := by
  refine ⟨ret_bool ?_, hb⟩
  unfold sameZ
  by_cases h1 : i.op = k.op
  · by_cases h2 : i.a = k.a
    · by_cases h3 : i.b = k.b
      · have h4 : ¬ i.l = k.l := fun e => h ⟨h1, h2, h3, e⟩
        simp [h4]
      · simp [h3]
    · simp [h2]
  · simp [h1]
theorem op_ne {a b : UInt8} (h : a ≠ b) : ((a.toNat : Int) == b.toNat) = false := by
  simp
  intro e
  exact h (UInt8.toNat_inj.1 (by omega))
theorem op_eq (a : UInt8) : ((a.toNat : Int) == a.toNat) = true := by simp
set_option maxHeartbeats 2000000 in
theorem refSame_any {w : World} {A B : Option Addr} {c d : Nat} {i k : I} (ha : LiesL w A i.l) (hb : LiesL w B k.l) (na : i.l.length ≤ 100000) (nb : k.l.length ≤ 100000) :
    Calls Tryz.prog 26 #[insV i A c, insV k B d] w (BoolPost (sameZ i k) w) := by
  have HB2 := Lib.hid (below_twoI w i k A B c d)
  have HA := Lib.hid (ha.below HB2.out)
  have HB := Lib.hid (hb.below HB2.out)
  clear ha hb
  by_cases h1 : i.op = k.op
  · have d1 : ((i.op.toNat : Int) != k.op.toNat) = false := by rw [h1]; simp
    by_cases h2 : i.a = k.a
    · have d2 : (i.a != k.a) = false := by simpa using h2
      by_cases h3 : i.b = k.b
      · have d3 : (i.b != k.b) = false := by simpa using h3
        have HE := Lib.hid (show sameZ i k = decide (i.l = k.l) by unfold sameZ; simp [h1, h2, h3])
        by_cases h4 : i.l.length = k.l.length
        · have d4 : ((i.l.length : Int) != k.l.length) = false := by rw [h4]; simp
          have HL := Lib.hid h4
          clear h1 h2 h3 h4
          go_enter Tryz.func26, Tryz.ntmps26
          go_wp2
          generalize hW : ((w.alloc (.cells (insC i A c) 44)).alloc (.cells (insC k B d) 44)) = W at *
          have x3 : W.cell? ⟨w.heap.size, 3, none⟩ = some (.slice A i.l.length c) := by rw [← hW]; exact ((Whole.made w 44 (insC i A c)).alloc _).cell 3
          have y3 : W.cell? ⟨w.heap.size + 1, 3, none⟩ = some (.slice B k.l.length d) := by
            rw [← hW]
            have := Whole.made (w.alloc (.cells (insC i A c) 44)) 44 (insC k B d)
            rw [size_box] at this
            exact this.cell 3
          clear hW
          go_loopw [5] (fun s wr => ∃ j q : Nat, j ≤ i.l.length ∧ s = .int .i64 j ∧ wr = W.drewN q ∧ Eqs i.l k.l j) (fun s _ => i.l.length - (intOf s).toNat)
          case atStart => exact ⟨0, 0, Nat.zero_le _, rfl, rfl, fun j hj => absurd hj (Nat.not_lt_zero _)⟩
          case round =>
            obtain ⟨j, q, hj, rfl, rfl, heq⟩ := hrel
            by_cases hlt : j < i.l.length
            · obtain ⟨x, hx⟩ : ∃ x, i.l[j]? = some x := ⟨_, List.getElem?_eq_getElem hlt⟩
              obtain ⟨y, hy⟩ : ∃ y, k.l[j]? = some y := ⟨_, List.getElem?_eq_getElem (by rw [← HL.out]; exact hlt)⟩
              obtain ⟨b1, o1, rfl, _, g1⟩ := HA.out.at hx
              obtain ⟨b2, o2, rfl, _, g2⟩ := HB.out.at hy
              have hlt2 : j < k.l.length := by rw [← HL.out]; exact hlt
              have HE2 := Lib.hid heq
              have HX := Lib.hid hx
              have HY := Lib.hid hy
              clear heq hx hy
              by_cases hxy : x = y
              · have HXY := Lib.hid hxy
                have hc : (x != y) = false := by simpa using hxy
                clear hxy
                go_wp2_with fail
                go_region
                go_wp2
                go_roundw
                case measure => simp [intOf]; omega
                case rel =>
                  refine ⟨j + 1, q + 1, by omega, by go_num, rfl, fun u hu => ?_⟩
                  by_cases e : u = j
                  · subst e
                    rw [HX.out, HY.out, HXY.out]
                  · exact HE2.out u (by omega)
              · have HXY := Lib.hid hxy
                have hc : (x != y) = true := by simpa using hxy
                clear hxy
                go_wp2_with fail
                go_region
                go_wp2
                go_ret
                refine ⟨ret_bool ?_, below_drewN HB2.out _⟩
                have : ¬ i.l = k.l := fun e => HXY.out (by have h1 := HX.out; have h2 := HY.out; rw [e, h2] at h1; injection h1 with h1; exact h1.symm)
                rw [HE.out, decide_eq_false this]
            · have hjj : j = i.l.length := by omega
              subst hjj
              have hab : i.l = k.l := heq.all rfl HL.out.symm
              clear heq
              go_wp2
              go_ret
              exact ⟨ret_bool (by rw [HE.out, decide_eq_true hab]), below_drewN HB2.out _⟩
        · have d4 : ((i.l.length : Int) != k.l.length) = true := by simp; omega
          have HNO := Lib.hid (fun W hb => same_no (i := i) (k := k) (w := w) (W := W) (fun h => h4 (by rw [h.2.2.2])) hb)
          clear h1 h2 h3 h4
          go_enter Tryz.func26, Tryz.ntmps26
          go_wp2
          go_ret
          exact HNO.out _ HB2.out
      · have d3 : (i.b != k.b) = true := by simpa using h3
        have HNO := Lib.hid (fun W hb => same_no (i := i) (k := k) (w := w) (W := W) (fun h => h3 h.2.2.1) hb)
        clear h1 h2 h3
        go_enter Tryz.func26, Tryz.ntmps26
        go_wp2
        go_ret
        exact HNO.out _ HB2.out
    · have d2 : (i.a != k.a) = true := by simpa using h2
      have HNO := Lib.hid (fun W hb => same_no (i := i) (k := k) (w := w) (W := W) (fun h => h2 h.2.1) hb)
      clear h1 h2
      go_enter Tryz.func26, Tryz.ntmps26
      go_wp2
      go_ret
      exact HNO.out _ HB2.out
  · have d1 : ((i.op.toNat : Int) != k.op.toNat) = true := by have := op_ne h1; simp at this ⊢; exact this
    have HNO := Lib.hid (fun W hb => same_no (i := i) (k := k) (w := w) (W := W) (fun h => h1 h.1) hb)
    clear h1
    go_enter Tryz.func26, Tryz.ntmps26
    go_wp2
    go_ret
    exact HNO.out _ HB2.out
end Go.Proofs.YticgmfeihdankaaGreatDoor

/- The walk of ConstsPuts. -/
namespace Go.Proofs.YticgmfeihdankaaGreatDoor
open Go.RowKit
set_option linter.unusedVariables false
set_option maxRecDepth 100000

/-- What the laws keep of an instruction: its box, its labels; the tables. -/
structure CSt (w : World) (i : I) (A : Option Addr) (c : Nat) (W : World) : Prop where
  tb : Tabs W
  box : BoxI w W i A c
  li : LiesL W A i.l
section
variable {w W W' : World} {i : I} {A : Option Addr} {c : Nat} {v : Value} {xs : List UInt8}
theorem CSt.on (h : CSt w i A c W) (hb : Below W.heap.size W W') : CSt w i A c W' := ⟨h.tb.below hb, h.box.on hb, h.li.below hb⟩
theorem CSt.start (hT : Tabs w) (hi : LiesL w A i.l) : CSt w i A c (w.alloc (.cells (insC i A c) 44)) :=
  ⟨hT.below (below_box _ _), BoxI.start w i A c, hi.below (below_box _ _)⟩
theorem CSt.bel (h : CSt w i A c W) : Below w.heap.size w W := h.box.2
/-- .. and bytes that were made. -/
structure CLb (w : World) (i : I) (A : Option Addr) (c : Nat) (v : Value) (xs : List UInt8) (W : World) : Prop where
  a : CSt w i A c W
  r : Row W w.heap.size v xs
theorem CLb.on (h : CLb w i A c v xs W) (hb : Below W.heap.size W W') : CLb w i A c v xs W' := ⟨h.a.on hb, h.r.later hb⟩
abbrev Five (w : World) (i : I) (A : Option Addr) (c : Nat) (Ab : Option Addr) (cb : Nat) (xs : List UInt8) (W : World) : Prop :=
  (W.cell? ⟨w.heap.size, 0, none⟩ = some (.int .u8 i.op.toNat) ∧ W.cell? ⟨w.heap.size, 1, none⟩ = some (.int .u64 i.a) ∧ W.cell? ⟨w.heap.size, 2, none⟩ = some (.int .u64 i.b) ∧ W.cell? ⟨w.heap.size, 3, none⟩ = some (.slice A i.l.length c)) ∧
  (convert 22 9 (.slice Ab xs.length cb)).run Tryz.prog W = .ok (.string (S xs)) W
theorem CLb.five {Ab : Option Addr} {cb : Nat} (h : CLb w i A c (.slice Ab xs.length cb) xs W) : CLb w i A c (.slice Ab xs.length cb) xs W ∧ Five w i A c Ab cb xs W := by
  obtain ⟨A', c', e, hc⟩ := h.r.str
  injection e with e1 e2 e3
  subst e1; subst e3
  exact ⟨h, ⟨h.a.box.c0, h.a.box.c1, h.a.box.c2, h.a.box.c3⟩, hc 9 Tryz.underlying9⟩
end
theorem same_self (i : I) : sameZ i i = true := by unfold sameZ; simp
theorem gIns_same (n : Int) (w : World) : Calls Tryz.prog 26 #[.agg #[.int .u8 35, .int .u64 n, .int .u64 0, .slice none 0 0], .agg #[.int .u8 35, .int .u64 n, .int .u64 0, .slice none 0 0]] w (BoolPost true w) := by
  have := refSame_any (w := w) (A := none) (B := none) (c := 0) (d := 0) (i := gIns n) (k := gIns n) (fun j v hv => by simp [cells32] at hv) (fun j v hv => by simp [cells32] at hv) (by simp) (by simp)
  rw [same_self] at this
  exact this

end Go.Proofs.YticgmfeihdankaaGreatDoor

/- creelref12.GetAll of any bytes; creelref12.Same. -/
namespace Go.Proofs.YticgmfeihdankaaGreatDoor
open Go.RowKit
set_option linter.unusedVariables false
set_option maxRecDepth 100000

/-- What holds at the head of the reference's loop. -/
structure BInG (w : World) (q : Nat) (l : List UInt8) (s : RSt) (xs : List SlotG) (v : Value) (W : World) : Prop where
  rs : Rs W q l s
  g : w.grownBy W (some q)
  r : RowG W w.heap.size v xs
section
variable {w W W' : World} {q : Nat} {l : List UInt8} {s s' : RSt} {xs : List SlotG} {x : SlotG} {v v' : Value}
theorem BInG.step (h : BInG w q l s xs v W) (hq : q < w.heap.size) (hg : W.grownBy W' (some q)) (hs : Rs W' q l s') : BInG w q l s' xs v W' :=
  ⟨hs, gb_trans h.g hg, h.r.past hg hq⟩
theorem BInG.alloc (h : BInG w q l s xs v W) (hq : q < w.heap.size) (o : Obj) : BInG w q l s xs v (W.alloc o) := h.step hq (gb_alloc (gb_refl _ _) o) (h.rs.alloc o)
theorem BInG.more (h : BInG w q l s xs v W) (hq : q < w.heap.size) (hg : W.grownBy W' v.ownBlock) (hr : RowG W' w.heap.size v' (xs ++ [x])) : BInG w q l s (xs ++ [x]) v' W' := by
  have hlt := World.ownsRow.lt h.r
  exact ⟨h.rs.grown hg (fun e => by have := hlt q e.symm; omega) (fun g e => by have := hlt g e; omega), gb_before h.g hg (fun g e => .inr (hlt g e).1), hr⟩
end
/-- How far the list is. -/
def GInv (l : List UInt8) (n j : Nat) (s : RSt) (rows : List SlotG) (R : Res (List Gl)) : Prop := match s with
  | .at k => gsK l (n - j) k (rows.map (·.1)) = R
  | .bad c a => R = .err c a
theorem GInv.step {l : List UInt8} {n j k : Nat} {rows : List SlotG} {R : Res (List Gl)} (h : GInv l n j (.at k) rows R) (hlt : j < n) {x : Gl} {A : Option Addr} {c : Nat} (hv : ∀ y k2, gR l k = .ok y k2 → x = y) :
    GInv l n (j + 1) (stOf (gR l k)) (rows ++ [(x, A, c)]) R := by
  have h1 : gsK l (n - j) k (rows.map (·.1)) = R := h
  rw [gsK_more hlt] at h1
  cases hg : gR l k with
  | err c a =>
    rw [hg, Res.bind_err] at h1
    exact h1.symm
  | ok y k2 =>
    rw [hg, Res.bind_ok] at h1
    obtain rfl := hv y k2 hg
    show gsK l (n - (j + 1)) k2 ((rows ++ [(x, A, c)]).map (·.1)) = R
    rw [List.map_append]
    exact h1
/-- What creelref12.GetAll leaves behind. -/
def RGotAllG (q : Nat) (l : List UInt8) (r : Res (List Gl)) (w : World) (e : Ending) (w' : World) : Prop := match r with
  | .ok xs k => ∃ v rows, e = .returned v ∧ RowG w' w.heap.size v rows ∧ rows.map (·.1) = xs ∧ Rs w' q l (.at k) ∧ w.grownBy w' (some q)
  | .err c a => e = .returned (.slice none 0 0) ∧ Rs w' q l (.bad c a) ∧ w.grownBy w' (some q)
set_option maxHeartbeats 4000000 in
theorem rgetall_gl {w : World} {q : Nat} {l : List UInt8} {k0 : Nat} (h : Rs w q l (.at k0)) :
    Calls Tryz.prog 10 #[.pointer (some ⟨q, 0, none⟩)] w (RGotAllG q l (allR l k0) w) := by
  have hq := h.lt
  have hC := count_ref h
  have key : ∃ (n : Nat) (s0 : RSt) (R : Res (List Gl)), vZ (countR l k0) = n ∧ n ≤ 10000 ∧ stOf (countR l k0) = s0 ∧ GInv l n 0 s0 [] R ∧ allR l k0 = R.bind fun xs k2 => if k2 < l.length then .err 14 k2 else .ok xs k2 := by
    unfold allR
    cases hr : countR l k0 with
    | err c a => exact ⟨0, .bad c a, .err c a, rfl, by omega, rfl, rfl, rfl⟩
    | ok v k1 =>
      obtain ⟨v0, v1⟩ := countR_ok hr
      obtain ⟨n, rfl⟩ : ∃ n : Nat, v = n := ⟨v.toNat, by omega⟩
      exact ⟨n, .at k1, gsK l n k1 [], rfl, by omega, rfl, rfl, by rw [Res.bind_ok, Int.toNat_natCast]⟩
  obtain ⟨n, s0, R, e1, e2, e3, hiv, hT⟩ := key
  rw [e1, e3] at hC
  obtain ⟨T, hTe⟩ : ∃ T, T = allR l k0 := ⟨_, rfl⟩
  rw [← hTe] at hT ⊢
  have HC := Lib.hid hC
  have HTE := Lib.hid hT
  have HIV := Lib.hid hiv
  clear h hC e1 e3 hiv hT hTe
  go_enter Tryz.func10, Tryz.ntmps10
  go_wp2_with (go_at_call 23; go_must ((with_reducible refine HC.out.mono ?_); rintro e w1 ⟨rfl, hs, hg⟩; have HS := Lib.hid hs; have HG := Lib.hid hg; clear hs hg))
  go_loopw [4, 5] (fun v i wr => ∃ (j : Nat) (s : RSt) (rows : List SlotG), j ≤ n ∧ i = .int .i64 j ∧ rows.length = j ∧ BInG w q l s rows v wr ∧ GInv l n j s rows R) (fun _ i _ => n - (intOf i).toNat)
  case atStart => exact ⟨0, s0, [], Nat.zero_le _, rfl, rfl, ⟨HS.out, HG.out, RowG.nil _ _⟩, HIV.out⟩
  case round =>
    obtain ⟨j, s, rows, hj, rfl, hlen, hb, hiv⟩ := hrel
    have HB := Lib.hid hb
    have HLEN := Lib.hid hlen
    have hle : rows.length ≤ 10000 := by omega
    cases s with
    | bad c a =>
      have x2 := why_bad hb.rs
      have dw : (c != 0) = true := by simpa using hb.rs.nz
      have dw2 : (c == 0) = false := by simpa using hb.rs.nz
      have HRE := Lib.hid (show T = .err c a by rw [HTE.out, show R = .err c a from hiv, Res.bind_err])
      have HEn := Lib.hid (fun W (g : Rs W q l (.bad c a)) => show Calls Tryz.prog 25 #[.pointer (some ⟨q, 0, none⟩)] W fun e w' => e = .returned (.tuple #[]) ∧ Rs w' q l (.bad c a) ∧ W.grownBy w' (some q) from end_ref g)
      clear hb hiv hlen hle
      by_cases hlt : j < n
      all_goals
        go_wp2_with (go_at_call 25; go_must ((with_reducible refine (HEn.out _ HB.out.rs).mono ?_); rintro e w2 ⟨rfl, hs, hg⟩; clear x2; have x2 := why_bad hs; have HS2 := Lib.hid hs; have HG2 := Lib.hid hg; clear hs hg))
        go_ret
        rw [HRE.out]
        exact ⟨rfl, HS2.out, gb_trans HB.out.g HG2.out⟩
    | «at» k =>
      have x2 := why_at hb.rs
      by_cases hlt : j < n
      · have HG := Lib.hid (show Calls Tryz.prog 24 #[.pointer (some ⟨q, 0, none⟩)] wr (fun e w' => ∃ (x : Gl) (A : Option Addr) (c : Nat), e = .returned (glV x A c) ∧ Rs w' q l (stOf (gR l k)) ∧ (∀ y k2, gR l k = .ok y k2 → x = y) ∧ wr.grownBy w' (some q)) from rget_gl hb.rs)
        have HST := Lib.hid (fun (x : Gl) (A : Option Addr) (c : Nat) (hv : ∀ y k2, gR l k = .ok y k2 → x = y) => GInv.step (A := A) (c := c) hiv hlt hv)
        clear hb hiv hlen
        go_wp2_with (first
          | (go_at_call 24; go_must ((with_reducible refine HG.out.mono ?_); intro e w2 hqq; obtain ⟨x, A, c, rfl, hs, hv, hg⟩ := hqq; have HV := Lib.hid hv; have HA2 := Lib.hid (HB.out.step hq hg hs); have hz2 := HA2.out.g.size; have HX := Lib.hid (Whole.made w2 46 (sC (x, A, c))); clear hs hg hv x2))
          | (at_builtin; (refine rowG_new rfl _ _ rfl w.heap.size _ rows rfl (HA2.out.alloc hq _).r w2.heap.size (x, A, c) rfl HX.out hle (Nat.le_trans hz2 (below_box w2 _).size) ?_; intro v3 w3 hr3 hg3; have HA3 := Lib.hid ((HA2.out.alloc hq _).more hq hg3 hr3); clear hr3 hg3)))
        go_roundw
        case rel => exact ⟨j + 1, _, rows ++ [(x, A, c)], by omega, by go_num, by rw [List.length_append, HLEN.out, List.length_singleton], HA3.out, HST.out x A c HV.out⟩
        case measure => simp [intOf]; omega
      · obtain rfl : j = n := by omega
        have hR : R = .ok (rows.map (·.1)) k := by
          have h1 : gsK l (j - j) k (rows.map (·.1)) = R := hiv
          rw [Nat.sub_self] at h1
          exact h1.symm
        by_cases hk : k < l.length
        · have HRE := Lib.hid (show T = .err 14 k by rw [HTE.out, hR, Res.bind_ok, if_pos hk])
          have HEn := Lib.hid (fun W (g : Rs W q l (.at k)) => show Calls Tryz.prog 25 #[.pointer (some ⟨q, 0, none⟩)] W fun e w' => e = .returned (.tuple #[]) ∧ Rs w' q l (.bad 14 k) ∧ W.grownBy w' (some q) from by have := end_ref g; rw [show endS l (.at k) = .bad 14 k from if_pos hk] at this; exact this)
          clear hb hiv hlen hle hR hk
          go_wp2_with (go_at_call 25; go_must ((with_reducible refine (HEn.out _ HB.out.rs).mono ?_); rintro e w2 ⟨rfl, hs, hg⟩; clear x2; have x2 := why_bad hs; have HS2 := Lib.hid hs; have HG2 := Lib.hid hg; clear hs hg))
          go_ret
          rw [HRE.out]
          exact ⟨rfl, HS2.out, gb_trans HB.out.g HG2.out⟩
        · have HRE := Lib.hid (show T = .ok (rows.map (·.1)) k by rw [HTE.out, hR, Res.bind_ok, if_neg hk])
          have HEn := Lib.hid (fun W (g : Rs W q l (.at k)) => show Calls Tryz.prog 25 #[.pointer (some ⟨q, 0, none⟩)] W fun e w' => e = .returned (.tuple #[]) ∧ Rs w' q l (.at k) ∧ W.grownBy w' (some q) from by have := end_ref g; rw [show endS l (.at k) = .at k from if_neg hk] at this; exact this)
          clear hb hiv hlen hle hR hk
          go_wp2_with (go_at_call 25; go_must ((with_reducible refine (HEn.out _ HB.out.rs).mono ?_); rintro e w2 ⟨rfl, hs, hg⟩; clear x2; have x2 := why_at hs; have HB2 := Lib.hid (HB.out.step hq hg hs); clear hs hg))
          go_ret
          rw [HRE.out]
          exact ⟨_, rows, rfl, HB2.out.r, rfl, HB2.out.rs, HB2.out.g⟩
/-- Same, of two that are alike and have no labels. -/
theorem rsame_gl {w : World} {x : Gl} {A B : Option Addr} {c d : Nat} (hx : x.i.l = []) :
    Calls Tryz.prog 11 #[glV x A c, glV x B d] w (BoolPost true w) := by
  have H1 := bxG_start w x A c
  have hb2 : Below w.heap.size w ((w.alloc (.cells (glC x A c) 46)).alloc (.cells (glC x B d) 46)) := (below_box w _).alloc (by simp) _
  have hS := refSame_any (w := (w.alloc (.cells (glC x A c) 46)).alloc (.cells (glC x B d) 46)) (A := A) (B := B) (c := c) (d := d) (i := x.i) (k := x.i) (by rw [hx]; intro j v hv; simp [cells32] at hv) (by rw [hx]; intro j v hv; simp [cells32] at hv) (by rw [hx]; simp) (by rw [hx]; simp)
  rw [same_self] at hS
  have HS := Lib.hid hS
  have HB := Lib.hid hb2
  clear hS hb2 H1 hx
  go_enter Tryz.func11, Tryz.ntmps11
  go_wp2_with (go_at_call 26; go_must ((with_reducible refine HS.out.mono ?_); rintro e w2 ⟨rfl, hb⟩; have HB2 := Lib.hid hb; clear hb))
  go_ret
  exact ⟨rfl, HB.out.trans (HB2.out.mono HB.out.size)⟩
end Go.Proofs.YticgmfeihdankaaGreatDoor

/- abort.Value of a function that ends well, whatever it hands back: []api.Global. Value of one that aborts. -/
namespace Go.Proofs.YticgmfeihdankaaGreatDoor
open Go.RowKit
set_option linter.unusedVariables false
set_option maxRecDepth 100000

theorem cfVGs (cap : Array Value) (w : World) : (callFunc 20 cap).run Tryz.prog w = .ok (.enter 20 cap) w := by kernel_rfl
section
variable {T : (Option Addr × Nat × Nat) → World → Prop}
/-- Value's own closure: what the step hands back lies in its cell. -/
theorem valClosGs {g : FuncId} {cap : Array Value} {b1 b4 q : Nat} {w : World} {z : Array Value} (hz : z.size = 1) (hcf : ∀ w : World, (callFunc g cap).run Tryz.prog w = .ok (.enter g cap) w)
    (h1 : Whole w b1 36 #[.func (.func g) #[] cap]) (h4 : Whole w b4 29 #[.slice none 0 0]) (hb : q < b4) (hT : ∀ x W W', T x W → W.grownBy W' (some b4) → T x W')
    (h : Calls Tryz.prog g cap w fun e w' => ∃ x, e = .returned (.slice x.1 x.2.1 x.2.2) ∧ T x w' ∧ w.grownBy w' (some q)) :
    Calls Tryz.prog 20 #[.pointer (some ⟨b1, 0, none⟩), .pointer (some ⟨b4, 0, none⟩)] w fun e w' =>
      e = .returned (.tuple #[]) ∧ ∃ x, T x w' ∧ Whole w' b4 29 #[.slice x.1 x.2.1 x.2.2] ∧ ∃ w1, w.grownBy w1 (some q) ∧ w1.grownBy w' (some b4) := by
  have hnil : ∀ w : World, (binOp BinOp.neq 36 (.func (.func g) #[] cap) .nilFunc).run Tryz.prog w = .ok (.bool true) w := fun _ => by kernel_rfl
  have c1 := h1.cell 0
  simp only [List.getElem?_toArray, List.getElem?_cons_zero] at c1
  have HH := Lib.hid h
  have H4 := Lib.hid h4
  have HT := Lib.hid hT
  clear h h1 h4 hT
  go_enter Tryz.func20, Tryz.ntmps20
  go_wp2_with fail
  refine HH.out.mono ?_
  rintro e w1 ⟨x, rfl, hs, hg⟩
  have HW := H4.out.grown hg (by simp only [ne_eq, Option.some.injEq]; omega)
  have k0 := HW.cell 0
  have f0 := HW.frozen 0
  simp only [List.getElem?_toArray, List.getElem?_cons_zero] at k0
  obtain ⟨p1, p2⟩ := put1 (u0 := .slice x.1 x.2.1 x.2.2) HW
  have F : Hid (T x (w1.setCell ⟨b4, 0, none⟩ (.slice x.1 x.2.1 x.2.2))) := HT.out _ _ _ hs p2
  have P1 := Lib.hid p1
  have P2 := Lib.hid p2
  have HG := Lib.hid hg
  clear p1 p2 hs hg HW hcf
  go_wp2_with fail
  go_end0
  exact ⟨rfl, x, F.out, P1.out, w1, HG.out, P2.out⟩
/-- What Value's closure leaves behind, seen from Value's beginning. -/
structure VSGs (T : (Option Addr × Nat × Nat) → World → Prop) (w : World) (q : Nat) (x : (Option Addr × Nat × Nat)) (w1 : World) : Prop where
  kept : T x w1
  grown : w.grownBy w1 (some q)
  val : Whole w1 (w.heap.size + 2) 29 #[.slice x.1 x.2.1 x.2.2]
  r2 : Whole w1 (w.heap.size + 1) 32 #[.int .i64 0, .int .i64 0]
/-- The world in which Value calls Out. -/
def vWorldGs (g : FuncId) (cap : Array Value) (w : World) : World :=
  ((w.alloc (.cells #[.func (.func g) #[] cap] 36)).alloc (.cells #[.int .i64 0, .int .i64 0] 32)).alloc (.cells #[.slice none 0 0] 29)
theorem vWorld_factsGs (g : FuncId) (cap : Array Value) (w : World) : (vWorldGs g cap w).heap.size = w.heap.size + 3 ∧ Whole (vWorldGs g cap w) w.heap.size 36 #[.func (.func g) #[] cap] ∧
    Whole (vWorldGs g cap w) (w.heap.size + 1) 32 #[.int .i64 0, .int .i64 0] ∧
    Whole (vWorldGs g cap w) (w.heap.size + 2) 29 #[.slice none 0 0] ∧ Below w.heap.size w (vWorldGs g cap w) := by
  have b1 := Whole.made w 36 #[.func (.func g) #[] cap]
  have b3 := Whole.made (w.alloc (.cells #[.func (.func g) #[] cap] 36)) 32 #[.int .i64 0, .int .i64 0]
  have b4 := Whole.made ((w.alloc (.cells #[.func (.func g) #[] cap] 36)).alloc (.cells #[.int .i64 0, .int .i64 0] 32)) 29 #[.slice none 0 0]
  simp only [World.size_alloc] at b3 b4
  exact ⟨by simp [vWorldGs], (b1.alloc _).alloc _, b3.alloc _, b4,
    (((Below.refl _ _).alloc (Nat.le_refl _) _).alloc (by simp) _).alloc (by simp; omega) _⟩
theorem value_outGs {g : FuncId} {cap : Array Value} {q : Nat} {w : World} (hcf : ∀ w : World, (callFunc g cap).run Tryz.prog w = .ok (.enter g cap) w) (hq : q < w.heap.size)
    (hT : ∀ x W W' b, w.heap.size ≤ b → b < w.heap.size + 4 → T x W → W.grownBy W' (some b) → T x W')
    (h : ∀ W, Below w.heap.size w W → w.heap.size + 4 ≤ W.heap.size → Calls Tryz.prog g cap W fun e w' => ∃ x, e = .returned (.slice x.1 x.2.1 x.2.2) ∧ T x w' ∧ W.grownBy w' (some q)) :
    Calls Tryz.prog 19 #[.func (.func 20) #[] #[.pointer (some ⟨w.heap.size, 0, none⟩), .pointer (some ⟨w.heap.size + 2, 0, none⟩)]] (vWorldGs g cap w) fun e w' => e = .returned (.agg #[.int .i64 0, .int .i64 0]) ∧ ∃ x, VSGs T w q x w' := by
  obtain ⟨hz, b1, b3, b4, hbe⟩ := vWorld_factsGs g cap w
  have b5 := Whole.made (vWorldGs g cap w) 32 #[.int .i64 0, .int .i64 0]
  have hbe2 : Below w.heap.size w ((vWorldGs g cap w).alloc (.cells #[.int .i64 0, .int .i64 0] 32)) := hbe.alloc (by omega) _
  have hc := valClosGs (T := T) (z := #[.slice none 0 0]) rfl hcf (b1.alloc (.cells #[.int .i64 0, .int .i64 0] 32)) (b4.alloc _) (by omega : q < w.heap.size + 2) (fun x W W' => hT x W W' _ (by omega) (by omega)) (h _ hbe2 (by rw [size_box]; omega))
  refine (out_any _ _ 0 0 (vWorldGs g cap w) (fun w1 => (∃ x, VSGs T w q x w1) ∧ Whole w1 (vWorldGs g cap w).heap.size 32 #[.int .i64 0, .int .i64 0]) (cfVGs _) (hc.mono ?_) (fun _ h => h.2)).mono ?_
  · rintro e w' ⟨rfl, x, hs, hv, w1, hg1, hg2⟩
    have hz2 : w.heap.size + 4 ≤ w1.heap.size := by have := hg1.size; simp only [World.size_alloc] at this; omega
    refine ⟨.inl ⟨rfl, rfl, rfl⟩, ⟨x, hs, ?_, hv, ?_⟩, ?_⟩
    · exact gb_before (gb_trans (gb_of_below (some q) hbe2) hg1) hg2 (fun g e => .inr (by injection e with e; omega))
    · exact ((b3.alloc _).grown hg1 (by simp only [ne_eq, Option.some.injEq]; omega)).grown hg2 (by simp only [ne_eq, Option.some.injEq]; omega)
    · exact (b5.grown hg1 (by simp only [ne_eq, Option.some.injEq]; omega)).grown hg2 (by simp only [ne_eq, Option.some.injEq]; omega)
  · rintro e w' ⟨rfl, w1, ⟨⟨x, hs⟩, _⟩, hg⟩
    rw [hz] at hg
    exact ⟨rfl, x, hT x _ _ _ (by omega) (by omega) hs.kept hg, gb_before hs.grown hg (fun g e => .inr (by injection e with e; omega)), hs.val.grown hg (by simp only [ne_eq, Option.some.injEq]; omega), hs.r2.grown hg (by simp only [ne_eq, Option.some.injEq]; omega)⟩

set_option maxHeartbeats 800000 in
/-- Value of a function that ends well. -/
theorem valueGs_ok {g : FuncId} {cap : Array Value} {q : Nat} {w : World} (hcf : ∀ w : World, (callFunc g cap).run Tryz.prog w = .ok (.enter g cap) w) (hq : q < w.heap.size)
    (hT : ∀ x W W' b, w.heap.size ≤ b → b < w.heap.size + 4 → T x W → W.grownBy W' (some b) → T x W')
    (h : ∀ W, Below w.heap.size w W → w.heap.size + 4 ≤ W.heap.size → Calls Tryz.prog g cap W fun e w' => ∃ x, e = .returned (.slice x.1 x.2.1 x.2.2) ∧ T x w' ∧ W.grownBy w' (some q)) :
    Calls Tryz.prog 7 #[.func (.func g) #[] cap] w fun e w' => ∃ x, e = .returned (.tuple #[.slice x.1 x.2.1 x.2.2, .agg #[.int .i64 0, .int .i64 0]]) ∧ T x w' ∧ w.grownBy w' (some q) := by
  have hv := value_outGs hcf hq hT h
  unfold vWorldGs at hv
  have HV := Lib.hid hv
  have HT := Lib.hid hT
  have hmf : ∀ (fn : Fn) (first cap : Array Value) (w : World), (Instr.makeFunc fn first cap).run Tryz.prog w = .ok (.func fn first cap) w := fun _ _ _ _ => rfl
  clear h hv hcf hT
  go_enter Tryz.func7, Tryz.ntmps7
  go_wp2_with (go_at_call 19; go_must (refine HV.out.mono ?_; rintro e w2 ⟨rfl, x, hl⟩; have k0 := fun o => (hl.val.alloc o).cell 0; have f8 := fun o => (hl.r2.alloc o).frozen 0; have f9 := fun o => (hl.r2.alloc o).frozen 1; have m8 := fun o => (hl.r2.alloc o).cell 0; have m9 := fun o => (hl.r2.alloc o).cell 1; simp only [List.getElem?_toArray, List.getElem?_cons_zero, List.getElem?_cons_succ] at k0 m8 m9; have hz := hl.grown.size; have HL := Lib.hid hl; clear hl))
  obtain ⟨p2, g2⟩ := put2 (u0 := .int .i64 0) (u1 := .int .i64 0) (HL.out.r2.alloc (.cells #[.int .i64 0, .int .i64 0] 32))
  have q8 := p2.cell 0
  have q9 := p2.cell 1
  simp only [List.getElem?_toArray, List.getElem?_cons_zero, List.getElem?_cons_succ] at q8 q9
  refine bodyPost_ret (v := .tuple #[.slice x.1 x.2.1 x.2.2, .agg #[.int .i64 0, .int .i64 0]]) (by simp [results, Tryz.results7, go_sem, q8, q9]) rfl ⟨x, rfl, ?_, ?_⟩
  · exact HT.out _ _ _ _ (by omega) (by omega) (HT.out _ _ _ w.heap.size (Nat.le_refl _) (by omega) HL.out.kept (gb_alloc (gb_refl _ _) _)) g2
  · exact gb_before (gb_alloc HL.out.grown _) g2 (fun g e => .inr (by injection e with e; omega))
end
/-- Value's own closure: what aborts goes on. -/
theorem valClosGsE {g : FuncId} {cap : Array Value} {b1 b4 q : Nat} {w : World} {c a : Int} (hcf : ∀ w : World, (callFunc g cap).run Tryz.prog w = .ok (.enter g cap) w)
    (h1 : Whole w b1 36 #[.func (.func g) #[] cap])
    (h : Calls Tryz.prog g cap w fun e w' => e = .panicked (stopP c a) ∧ w.grownBy w' (some q)) :
    Calls Tryz.prog 20 #[.pointer (some ⟨b1, 0, none⟩), .pointer (some ⟨b4, 0, none⟩)] w fun e w' => e = .panicked (stopP c a) ∧ w.grownBy w' (some q) := by
  have hnil : ∀ w : World, (binOp BinOp.neq 36 (.func (.func g) #[] cap) .nilFunc).run Tryz.prog w = .ok (.bool true) w := fun _ => by kernel_rfl
  have c1 := h1.cell 0
  simp only [List.getElem?_toArray, List.getElem?_cons_zero] at c1
  have HH := Lib.hid h
  clear h h1
  go_enter Tryz.func20, Tryz.ntmps20
  go_wp2_with fail
  refine HH.out.mono ?_
  rintro e w1 ⟨rfl, hg⟩
  exact ⟨rfl, rfl, hg⟩
theorem value_outGsE {g : FuncId} {cap : Array Value} {q : Nat} {w : World} {c a : Int} (hc : ¬ c = 0) (hcf : ∀ w : World, (callFunc g cap).run Tryz.prog w = .ok (.enter g cap) w) (hq : q < w.heap.size)
    (h : ∀ W, Below w.heap.size w W → w.heap.size + 4 ≤ W.heap.size → Calls Tryz.prog g cap W fun e w' => e = .panicked (stopP c a) ∧ W.grownBy w' (some q)) :
    Calls Tryz.prog 19 #[.func (.func 20) #[] #[.pointer (some ⟨w.heap.size, 0, none⟩), .pointer (some ⟨w.heap.size + 2, 0, none⟩)]] (vWorldGs g cap w) fun e w' => e = .returned (.agg #[.int .i64 c, .int .i64 a]) ∧
      w.grownBy w' (some q) ∧ w.heap.size + 3 ≤ w'.heap.size ∧ Whole w' (w.heap.size + 2) 29 #[.slice none 0 0] ∧ Whole w' (w.heap.size + 1) 32 #[.int .i64 0, .int .i64 0] := by
  obtain ⟨hz, b1, b3, b4, hbe⟩ := vWorld_factsGs g cap w
  have b5 := Whole.made (vWorldGs g cap w) 32 #[.int .i64 0, .int .i64 0]
  have hbe2 : Below w.heap.size w ((vWorldGs g cap w).alloc (.cells #[.int .i64 0, .int .i64 0] 32)) := hbe.alloc (by omega) _
  have hcl := valClosGsE (b4 := w.heap.size + 2) hcf (b1.alloc (.cells #[.int .i64 0, .int .i64 0] 32)) (h _ hbe2 (by rw [size_box]; omega))
  refine (out_any _ _ c a (vWorldGs g cap w) (fun w1 => ((vWorldGs g cap w).alloc (.cells #[.int .i64 0, .int .i64 0] 32)).grownBy w1 (some q)) (cfVGs _) (hcl.mono ?_) (fun w1 hg => b5.grown hg (by simp only [ne_eq, Option.some.injEq]; omega))).mono ?_
  · rintro e w' ⟨rfl, hg⟩
    exact ⟨.inr ⟨hc, rfl⟩, hg⟩
  · rintro e w' ⟨rfl, w1, hg1, hg2⟩
    have z1 := hg1.size
    have z2 := hg2.size
    rw [size_box] at z1
    rw [hz] at hg2
    exact ⟨rfl, gb_before (gb_trans (gb_of_below (some q) hbe2) hg1) hg2 (fun g e => .inr (by injection e with e; omega)), by omega,
      ((b4.alloc _).grown hg1 (by simp only [ne_eq, Option.some.injEq]; omega)).grown hg2 (by simp only [ne_eq, Option.some.injEq]; omega),
      ((b3.alloc _).grown hg1 (by simp only [ne_eq, Option.some.injEq]; omega)).grown hg2 (by simp only [ne_eq, Option.some.injEq]; omega)⟩
set_option maxHeartbeats 4000000 in
/-- Value of a function that aborts. -/
theorem valueGsE_any {g : FuncId} {cap : Array Value} {q : Nat} {w : World} {c a : Int} (hc : ¬ c = 0) (hcf : ∀ w : World, (callFunc g cap).run Tryz.prog w = .ok (.enter g cap) w) (hq : q < w.heap.size)
    (h : ∀ W, Below w.heap.size w W → w.heap.size + 4 ≤ W.heap.size → Calls Tryz.prog g cap W fun e w' => e = .panicked (stopP c a) ∧ W.grownBy w' (some q)) :
    Calls Tryz.prog 7 #[.func (.func g) #[] cap] w fun e w' => e = .returned (.tuple #[.slice none 0 0, .agg #[.int .i64 c, .int .i64 a]]) ∧ w.grownBy w' (some q) := by
  have hv := value_outGsE hc hcf hq h
  unfold vWorldGs at hv
  have HV := Lib.hid hv
  have dc : (c == 0) = false := by simpa using hc
  have hmf : ∀ (fn : Fn) (first cap : Array Value) (w : World), (Instr.makeFunc fn first cap).run Tryz.prog w = .ok (.func fn first cap) w := fun _ _ _ _ => rfl
  clear h hv hcf hc
  go_enter Tryz.func7, Tryz.ntmps7
  go_wp2_with (go_at_call 19; go_must (refine HV.out.mono ?_; rintro e w2 ⟨rfl, hg, hz, hv, hr2⟩; have HL := Lib.hid (show w.grownBy w2 (some q) ∧ w.heap.size + 3 ≤ w2.heap.size ∧ Whole w2 (w.heap.size + 2) 29 #[.slice none 0 0] ∧ Whole w2 (w.heap.size + 1) 32 #[.int .i64 0, .int .i64 0] from ⟨hg, hz, hv, hr2⟩); clear hg hz hv hr2))
  generalize hW : w2.alloc (.cells #[.int .i64 c, .int .i64 a] 32) = W at *
  have hz2 := HL.out.2.1
  have k3 : Whole W (w.heap.size + 2) 29 #[.slice none 0 0] := by rw [← hW]; exact HL.out.2.2.1.alloc _
  have k2 : Whole W (w.heap.size + 1) 32 #[.int .i64 0, .int .i64 0] := by rw [← hW]; exact HL.out.2.2.2.alloc _
  have k5 : Whole W w2.heap.size 32 #[.int .i64 c, .int .i64 a] := by rw [← hW]; exact Whole.made _ _ _
  have hgW : w.grownBy W (some q) := by rw [← hW]; exact gb_alloc HL.out.1 _
  clear hW
  have K2 := Lib.hid k2
  have KG := Lib.hid hgW
  have v0 := k3.cell 0
  have s0 := k5.cell 0
  have s1 := k5.cell 1
  have n0 := k2.cell 0
  have n1 := k2.cell 1
  have g0 := k2.frozen 0
  have g1 := k2.frozen 1
  have e2 : ¬ w2.heap.size = w.heap.size + 1 := by omega
  simp only [List.getElem?_toArray, List.getElem?_cons_zero, List.getElem?_cons_succ] at v0 s0 s1 n0 n1
  clear k2 k3 k5 hgW
  go_region
  all_goals
    go_wp2
    obtain ⟨p2, j2⟩ := put2 (u0 := .int .i64 c) (u1 := .int .i64 a) K2.out
    have q8 := p2.cell 0
    have q9 := p2.cell 1
    simp only [List.getElem?_toArray, List.getElem?_cons_zero, List.getElem?_cons_succ] at q8 q9
    have hfin := gb_before KG.out j2 (fun g e => .inr (by injection e with e; omega))
    refine bodyPost_ret (v := .tuple #[.slice none 0 0, .agg #[.int .i64 c, .int .i64 a]]) (by simp [results, Tryz.results7, go_sem, q8, q9]) rfl ⟨rfl, ?_⟩
    first | exact hfin | exact gb_drew hfin | exact ⟨hfin.os, hfin.tape, hfin.output, hfin.size, hfin.block⟩
end Go.Proofs.YticgmfeihdankaaGreatDoor
