/- exports.Get of an export's bytes. -/
import Derived.Test.YtanddfkhokcepaaDoorQz14
import Derived.Test.YtanddfkhokcepaaDoorQz05
import Derived.Test.YtanddfkhokcepaaDoorQz01
import Derived.RegionTactic
import Derived.Deep.LoopGhost
import Derived.Maps.OwnSet
import Derived.Maps.AppendAt
import Derived.StringKeys
import Derived.Deep.QuietTactic
import Derived.BigQuiet
import Derived.StillTailTactics
import Derived.Deep.DeepMust
namespace Go.Proofs.YtanddfkhokcepaaDoor
open Go.RowKit Go.Lib
set_option linter.unusedVariables false
set_option maxRecDepth 100000

/-- The export that was read. -/
def GotE (p : Nat) (l : List UInt8) (k' : Nat) (x : Ex) (w : World) (e : Ending) (w' : World) : Prop := e = .returned (exV x) ∧ Sc w' p l k' ∧ w.grownBy w' (some p)
set_option maxHeartbeats 4000000 in
theorem get_exr {w : World} {p : Nat} {l : List UInt8} {k k1 k2 k3 : Nat} {x : Ex} (h : Sc w p l k) (hT : TbN p w) (h1 : nameR l k = .ok x.nam k1) (h2 : byteR l k1 = .ok x.kind k2) (hk : x.kind.toNat ≤ 3)
    (h3 : indexR l k2 = .ok (x.idx.toNat : Int) k3) : Calls Tryd.prog 43 #[.pointer (some ⟨p, 0, none⟩)] w (GotE p l k3 x w) := by
  have hp := h.lt
  have hN := name_scan (h.alloc (.cells (exC exZ) 78)) (hT.below (below_box w (.cells (exC exZ) 78)))
  rw [h1, exC_zero] at hN
  have HN := Lib.hid hN
  have HK := Lib.hid (fun W (hs : Sc W p l k1) => nk_ok hs h2 hk)
  have HV := Lib.hid (fun W (hs : Sc W p l k2) => by have := index_scan hs; rw [h3] at this; exact this)
  have HWM := Lib.hid (Whole.made w 78 (exC exZ))
  rw [exC_zero] at HWM
  clear h hT hN h1 h2 hk h3
  go_enter Tryd.func43, Tryd.ntmps43
  go_wp2_with (first
    | (go_at_call 77; go_must ((with_reducible refine HN.out.mono ?_); rintro e w1 ⟨rfl, hs, hg⟩; have HS1 := Lib.hid hs; have HG1 := Lib.hid hg; have HW1 := Lib.hid (HWM.out.grown hg (by simp only [ne_eq, Option.some.injEq]; omega)); clear hs hg))
    | (go_at_call 78; go_must ((with_reducible refine (HK.out _ HS1.out).mono ?_); rintro e w2 ⟨rfl, hs, hg⟩; have HS2 := Lib.hid hs; have HG2 := Lib.hid hg; have HW2 := Lib.hid (HW1.out.grown hg (by simp only [ne_eq, Option.some.injEq]; omega)); clear hs hg))
    | (go_at_call 79; go_must ((with_reducible refine (HV.out _ HS2.out).mono ?_); rintro e w3 ⟨rfl, hs, hg⟩; have HS3 := Lib.hid hs; have HG3 := Lib.hid hg; have HW3 := Lib.hid (HW2.out.grown hg (by simp only [ne_eq, Option.some.injEq]; omega)); obtain ⟨k0, k1', k2'⟩ := (show Whole w3 w.heap.size 78 (exC exZ) from HW3.out).ex; have f0 := HW3.out.frozen 0; have f1 := HW3.out.frozen 1; have f2 := HW3.out.frozen 2; clear hs hg)))
  obtain ⟨h1, h2⟩ := put3 (u0 := .string (S x.nam)) (u1 := .int .u8 x.kind.toNat) (u2 := .int .u32 x.idx.toNat) HW3.out
  obtain ⟨q0, q1, q2⟩ := Whole.ex (x := x) h1
  have hall := gb_trans (gb_trans (gb_trans (gb_alloc (gb_refl w _) _) HG1.out) HG2.out) HG3.out
  exact bodyPost_ret (v := exV x) (by simp [results, Tryd.results43, go_sem, q0, q1, q2]) rfl ⟨rfl, HS3.out.grown h2 (by simp only [ne_eq, Option.some.injEq]; omega) (fun g e => by injection e with e; omega), gb_before hall h2 (fun g e => .inr (by injection e with e; omega))⟩
/-- Get, of an export's bytes. -/
theorem get_ex {w : World} {p : Nat} {l r : List UInt8} {k : Nat} {x : Ex} (h : Sc w p l k) (hT : TbN p w) (hd : l.drop k = eputL x ++ r) (hz : rE x = 0) :
    Calls Tryd.prog 43 #[.pointer (some ⟨p, 0, none⟩)] w (GotE p l (k + (eputL x).length) x w) := by
  obtain ⟨c1, c3⟩ := rE_zero hz
  obtain ⟨s1, s2⟩ := checkZ_zero c1
  have hi : eputL x = nmL x.nam ++ (x.kind :: lebL x.idx.toNat) := by unfold eputL; simp
  have hd1 : l.drop k = nmL x.nam ++ (x.kind :: (lebL x.idx.toNat ++ r)) := by rw [hd, hi]; simp
  have n1 := nameR_at hd1 s1 s2
  have hd2 := drop_past hd1
  have n2 := byteR_at hd2
  have hd3 : l.drop (k + (nmL x.nam).length + 1) = lebL x.idx.toNat ++ r := by
    have := drop_past (a := [x.kind]) (r := lebL x.idx.toNat ++ r) (by simpa using hd2)
    simpa using this
  have hlen : k + (eputL x).length = k + (nmL x.nam).length + 1 + (lebL (x.idx.toNat : Int)).length := by
    rw [hi]; simp only [List.length_append, List.length_cons]; omega
  rw [hlen]
  exact get_exr h hT n1 n2 c3 (indexR_at hd3 (by omega) (u32_le _))
end Go.Proofs.YtanddfkhokcepaaDoor

/- exports.PutAll. -/
namespace Go.Proofs.YtanddfkhokcepaaDoor
open Go.RowKit
set_option linter.unusedVariables false
set_option maxRecDepth 100000

/-- The first error. -/
def errE : List Ex → Int
  | [] => 0
  | x :: r => if rE x ≠ 0 then rE x else errE r
theorem errE_app : ∀ a b : List Ex, errE (a ++ b) = if errE a ≠ 0 then errE a else errE b
  | [], b => by simp [errE]
  | x :: a, b => by
    simp only [List.cons_append, errE]
    by_cases h : rE x = 0
    · simp only [h, ne_eq, not_true_eq_false, if_false, errE_app a b]
    · simp [h]
theorem errE_snoc {l : List Ex} {k : Nat} {x : Ex} (h : l[k]? = some x) : errE (l.take (k + 1)) = if errE (l.take k) ≠ 0 then errE (l.take k) else rE x := by
  rw [List.take_add_one, h]
  show errE (l.take k ++ [x]) = _
  rw [errE_app]
  by_cases e : rE x = 0 <;> simp [errE, e]
theorem errE_bad {l : List Ex} {k : Nat} (h : errE (l.take k) ≠ 0) : errE l = errE (l.take k) := by
  conv => lhs; rw [← List.take_append_drop k l]
  rw [errE_app, if_pos h]
theorem errE_mem : ∀ {l : List Ex}, errE l = 0 → ∀ x ∈ l, rE x = 0
  | [], _, x, hx => by cases hx
  | y :: l, h, x, hx => by
    simp only [errE] at h
    by_cases e : rE y = 0
    · simp only [e, ne_eq, not_true_eq_false, if_false] at h
      rcases List.mem_cons.1 hx with rfl | hx
      · exact e
      · exact errE_mem h x hx
    · simp [e] at h
/-- Many exports' bytes. -/
noncomputable def eputsL (l : List Ex) : List UInt8 := l.flatMap eputL
theorem eputsL_snoc {l : List Ex} {k : Nat} {x : Ex} (h : l[k]? = some x) : eputsL (l.take (k + 1)) = eputsL (l.take k) ++ eputL x := by
  unfold eputsL
  rw [List.take_add_one, h, List.flatMap_append]
  simp
/-- The names are short. -/
def ShortE (l : List Ex) : Prop := ∀ x ∈ l, x.nam.length ≤ 400
theorem eputsL_len : ∀ {l : List Ex}, ShortE l → (eputsL l).length ≤ l.length * 421
  | [], _ => by simp [eputsL]
  | x :: r, h => by
    have h1 := eputsL_len (l := r) (fun y hy => h y (List.mem_cons_of_mem _ hy))
    have h2 := h x (by simp)
    have h3 := (eputL_len (n := 400) h2 (by omega)).2
    unfold eputsL at h1 ⊢
    rw [List.flatMap_cons, List.length_append, List.length_cons]
    omega
noncomputable def allE (l : List Ex) : List UInt8 := lebL l.length ++ eputsL l
/-- What PutAll hands back. -/
def PuttedAllE (l : List Ex) (w : World) (e : Ending) (w' : World) : Prop := ∃ v, e = .returned (.tuple #[v, .int .i64 (errE l)]) ∧ Row w' w.heap.size v (if errE l = 0 then allE l else []) ∧ Below w.heap.size w w'
theorem cfEP (a : Array Value) (w : World) : (callFunc 39 a).run Tryd.prog w = .ok (.enter 39 a) w := by kernel_rfl
set_option maxHeartbeats 4000000 in
theorem wputall_ex {w : World} {A : Option Addr} {c : Nat} {l : List Ex} (hl : Exs w A l) (hT : Tabs w) (hs : ShortE l) (h20 : l.length ≤ 1000) :
    Calls Tryd.prog 91 #[.slice A l.length c, .func (.func 39) #[] #[]] w (PuttedAllE l w) := by
  have HL := Lib.hid hl
  have HTb := Lib.hid hT
  have HSh := Lib.hid hs
  have hall := eputsL_len hs
  have hlb := lebL_len (l.length : Int) (by omega)
  have HZ := Lib.hid (fun W => size_w l.length W (by omega))
  obtain ⟨n, hn⟩ : ∃ n, n = l.length := ⟨_, rfl⟩
  obtain ⟨hd, hhd⟩ : ∃ hd, hd = lebL (l.length : Int) := ⟨_, rfl⟩
  rw [← hhd] at HZ hlb
  have HN := Lib.hid hn
  have HE := Lib.hid (show l.take n = l by rw [hn, List.take_length])
  have HAL := Lib.hid (show allE l = hd ++ eputsL l by rw [hhd]; rfl)
  have HPL := Lib.hid (fun k => show (eputsL (l.take k)).length ≤ (eputsL l).length by
    have e : eputsL l = eputsL (l.take k) ++ eputsL (l.drop k) := by unfold eputsL; rw [← List.flatMap_append, List.take_append_drop]
    rw [e, List.length_append]; omega)
  rw [← hn] at hall h20 HZ ⊢
  have d10 : decide ((10000 : Int) < (n : Int)) = false := decide_eq_false (by omega)
  have hcf := cfEP
  clear hl hT hs hn hhd
  go_enter Tryd.func91, Tryd.ntmps91
  go_wp2_with (go_at_call 96; go_must ((with_reducible refine (HZ.out _).mono ?_); intro e w1 h; obtain ⟨v, rfl, hr, hb⟩ := h; have HR := Lib.hid hr; have HB := Lib.hid hb; clear hr hb))
  go_loopw [6, 19] (fun v i wr => ∃ k : Nat, k ≤ n ∧ i = .int .i64 k ∧ errE (l.take k) = 0 ∧ Row wr w.heap.size v (hd ++ eputsL (l.take k)) ∧ Below w.heap.size w wr) (fun _ i _ => n - (intOf i).toNat)
  case atStart => exact ⟨0, Nat.zero_le _, rfl, rfl, by simpa [eputsL] using HR.out, HB.out⟩
  case round =>
    obtain ⟨k, hk, rfl, he, hr, hb⟩ := hrel
    have hz1 := hb.size
    by_cases hlt : k < n
    · obtain ⟨x, hx⟩ : ∃ x, l[k]? = some x := ⟨_, List.getElem?_eq_getElem (by rw [← HN.out]; exact hlt)⟩
      obtain ⟨b, off, rfl, hbl, m0, m1, m2⟩ := (HL.out.below hb).three hx
      have hxs := HSh.out x (List.mem_of_getElem? hx)
      have hTk := errE_snoc hx
      have hPk := eputsL_snoc hx
      have hpl := HPL.out (k + 1)
      have HB2 := Lib.hid (hb.alloc hz1 (.cells (exC x) 78))
      have HR2 := Lib.hid (hr.alloc (.cells (exC x) 78))
      have HP := Lib.hid (put_ex x (wr.alloc (.cells (exC x) 78)) (HTb.out.below HB2.out) (by omega))
      have hzb : wr.heap.size ≤ (wr.alloc (.cells (exC x) 78)).heap.size := (below_box wr _).size
      rw [he] at hTk
      simp only [ne_eq, not_true_eq_false, if_false] at hTk
      unfold PuttedE at HP
      have HTk := Lib.hid hTk
      have HPk := Lib.hid hPk
      by_cases z0 : rE x = 0
      · rw [if_pos z0, z0] at HP
        have hil := eputL_len (n := 400) hxs (by omega)
        have hsz : (hd ++ eputsL (l.take k)).length + (eputL x).length ≤ 1000000 := by
          rw [hPk, List.length_append] at hpl
          rw [List.length_append]
          omega
        have HIL := Lib.hid hil
        have HSZ := Lib.hid hsz
        obtain ⟨y, hy⟩ : ∃ y, y = eputL x := ⟨_, rfl⟩
        rw [← hy] at HP HPk HIL HSZ
        have HZ0 := Lib.hid z0
        clear hTk hPk hpl he hr hb z0 hil hsz hy hxs
        go_wp2_with (first
          | (go_at_call 39; go_must ((with_reducible refine HP.out.mono ?_); intro e w3 h; obtain ⟨v3, rfl, hr3, hb3⟩ := h; obtain ⟨A3, c3, rfl, hp3⟩ := hr3.pc; have HP3 := Lib.hid hp3; have HR3 := Lib.hid (HR2.out.later hb3); have HB3 := Lib.hid (HB2.out.trans (hb3.mono HB2.out.size)); have hz3 := HB3.out.size; clear hr3 hb3 hp3))
          | (at_builtin; (refine row_any rfl _ _ rfl w.heap.size _ (hd ++ eputsL (l.take k)) rfl HR3.out A3 y.length c3 w3.heap.size y rfl rfl HP3.out.lies HP3.out.nil HSZ.out hz3 ?_; intro v4 w4 hr4 hb4; have HR4 := Lib.hid hr4; have HB4 := Lib.hid hb4; clear hr4 hb4)))
        go_roundw
        case rel => exact ⟨k + 1, by omega, by go_num, by rw [HTk.out]; exact HZ0.out, by rw [HPk.out, ← List.append_assoc]; exact HR4.out, HB3.out.trans HB4.out⟩
        case measure => simp [intOf]; omega
      · rw [if_neg z0] at HP
        have hbad := errE_bad (l := l) (k := k + 1) (by rw [hTk]; exact z0)
        rw [hTk] at hbad
        have HBAD := Lib.hid hbad
        have dz : (rE x != 0) = true := zb_of (by simpa using z0)
        have HZ0 := Lib.hid (show ¬ errE l = 0 by rw [hbad]; exact z0)
        clear hTk hPk hpl he hr hb z0 hbad hxs
        generalize rE x = z at *
        go_wp2_with (go_at_call 39; go_must ((with_reducible refine HP.out.mono ?_); intro e w3 h; obtain ⟨v3, rfl, hr3, hb3⟩ := h; have HB3 := Lib.hid (HB2.out.trans (hb3.mono HB2.out.size)); clear hr3 hb3))
        go_ret2
        exact ⟨_, ret_pair HBAD.out.symm, by rw [if_neg HZ0.out]; exact Row.nil _ _, HB3.out⟩
    · obtain rfl : k = n := by omega
      rw [HE.out] at he
      rw [HE.out] at hr
      have HE2 := Lib.hid he
      have HR2 := Lib.hid hr
      have HB2 := Lib.hid hb
      clear hr hb he
      go_wp2
      go_ret2
      exact ⟨_, ret_pair HE2.out.symm, by rw [if_pos HE2.out, HAL.out]; exact HR2.out, HB2.out⟩
theorem putall_ex {w : World} {A : Option Addr} {c : Nat} {l : List Ex} (hl : Exs w A l) (hT : Tabs w) (hs : ShortE l) (h20 : l.length ≤ 1000) :
    Calls Tryd.prog 47 #[.slice A l.length c] w (PuttedAllE l w) := by
  have HP := Lib.hid (wputall_ex (c := c) hl hT hs h20)
  unfold PuttedAllE at HP
  clear hl hT hs h20
  go_enter Tryd.func47, Tryd.ntmps47
  go_wp2_with (go_at_call 91; go_must ((with_reducible refine HP.out.mono ?_); intro e w1 h; obtain ⟨v, rfl, hr, hb⟩ := h; have HR := Lib.hid hr; have HB := Lib.hid hb; clear hr hb))
  go_ret2
  exact ⟨_, rfl, HR.out, HB.out⟩
end Go.Proofs.YtanddfkhokcepaaDoor

/- abort.Value of a function that ends well, whatever it hands back: api.Export. (By gen/genVal.py.) -/
namespace Go.Proofs.YtanddfkhokcepaaDoor
open Go.RowKit
set_option linter.unusedVariables false
set_option maxRecDepth 100000

theorem cfVX (cap : Array Value) (w : World) : (callFunc 90 cap).run Tryd.prog w = .ok (.enter 90 cap) w := by kernel_rfl
section
variable {T : Ex → World → Prop}
/-- Value's own closure: what the step hands back lies in its cell. -/
theorem valClosX {g : FuncId} {cap : Array Value} {b1 b4 q : Nat} {w : World} {z : Array Value} (hz : z.size = 3) (hcf : ∀ w : World, (callFunc g cap).run Tryd.prog w = .ok (.enter g cap) w)
    (h1 : Whole w b1 85 #[.func (.func g) #[] cap]) (h4 : Whole w b4 78 #[.string { data := #[] }, .int .u8 0, .int .u32 0]) (hb : q < b4) (hT : ∀ x W W', T x W → W.grownBy W' (some b4) → T x W')
    (h : Calls Tryd.prog g cap w fun e w' => ∃ x, e = .returned (exV x) ∧ T x w' ∧ w.grownBy w' (some q)) :
    Calls Tryd.prog 90 #[.pointer (some ⟨b1, 0, none⟩), .pointer (some ⟨b4, 0, none⟩)] w fun e w' =>
      e = .returned (.tuple #[]) ∧ ∃ x, T x w' ∧ Whole w' b4 78 #[.string (S x.nam), .int .u8 x.kind.toNat, .int .u32 x.idx.toNat] ∧ ∃ w1, w.grownBy w1 (some q) ∧ w1.grownBy w' (some b4) := by
  have hnil : ∀ w : World, (binOp BinOp.neq 85 (.func (.func g) #[] cap) .nilFunc).run Tryd.prog w = .ok (.bool true) w := fun _ => by kernel_rfl
  have c1 := h1.cell 0
  simp only [List.getElem?_toArray, List.getElem?_cons_zero] at c1
  have HH := Lib.hid h
  have H4 := Lib.hid h4
  have HT := Lib.hid hT
  clear h h1 h4 hT
  go_enter Tryd.func90, Tryd.ntmps90
  go_wp2_with fail
  refine HH.out.mono ?_
  rintro e w1 ⟨x, rfl, hs, hg⟩
  have HW := H4.out.grown hg (by simp only [ne_eq, Option.some.injEq]; omega)
  have k0 := HW.cell 0
  have k1 := HW.cell 1
  have k2 := HW.cell 2
  have f0 := HW.frozen 0
  have f1 := HW.frozen 1
  have f2 := HW.frozen 2
  simp only [List.getElem?_toArray, List.getElem?_cons_zero, List.getElem?_cons_succ] at k0 k1 k2
  obtain ⟨p1, p2⟩ := put3 (u0 := .string (S x.nam)) (u1 := .int .u8 x.kind.toNat) (u2 := .int .u32 x.idx.toNat) HW
  have F : Hid (T x (((w1.setCell ⟨b4, 0, none⟩ (.string (S x.nam))).setCell ⟨b4, 1, none⟩ (.int .u8 x.kind.toNat)).setCell ⟨b4, 2, none⟩ (.int .u32 x.idx.toNat))) := HT.out _ _ _ hs p2
  have P1 := Lib.hid p1
  have P2 := Lib.hid p2
  have HG := Lib.hid hg
  clear p1 p2 hs hg HW hcf
  go_wp2_with fail
  go_end0
  exact ⟨rfl, x, F.out, P1.out, w1, HG.out, P2.out⟩
/-- What Value's closure leaves behind, seen from Value's beginning. -/
structure VSX (T : Ex → World → Prop) (w : World) (q : Nat) (x : Ex) (w1 : World) : Prop where
  kept : T x w1
  grown : w.grownBy w1 (some q)
  val : Whole w1 (w.heap.size + 3) 78 #[.string (S x.nam), .int .u8 x.kind.toNat, .int .u32 x.idx.toNat]
  r1 : Whole w1 (w.heap.size + 1) 78 #[.string { data := #[] }, .int .u8 0, .int .u32 0]
  r2 : Whole w1 (w.heap.size + 2) 39 #[.int .i64 0, .int .i64 0]
/-- The world in which Value calls Out. -/
def vWorldX (g : FuncId) (cap : Array Value) (w : World) : World :=
  (((w.alloc (.cells #[.func (.func g) #[] cap] 85)).alloc (.cells #[.string { data := #[] }, .int .u8 0, .int .u32 0] 78)).alloc (.cells #[.int .i64 0, .int .i64 0] 39)).alloc (.cells #[.string { data := #[] }, .int .u8 0, .int .u32 0] 78)
theorem vWorld_factsX (g : FuncId) (cap : Array Value) (w : World) : (vWorldX g cap w).heap.size = w.heap.size + 4 ∧ Whole (vWorldX g cap w) w.heap.size 85 #[.func (.func g) #[] cap] ∧
    Whole (vWorldX g cap w) (w.heap.size + 1) 78 #[.string { data := #[] }, .int .u8 0, .int .u32 0] ∧ Whole (vWorldX g cap w) (w.heap.size + 2) 39 #[.int .i64 0, .int .i64 0] ∧
    Whole (vWorldX g cap w) (w.heap.size + 3) 78 #[.string { data := #[] }, .int .u8 0, .int .u32 0] ∧ Below w.heap.size w (vWorldX g cap w) := by
  have b1 := Whole.made w 85 #[.func (.func g) #[] cap]
  have b2 := Whole.made (w.alloc (.cells #[.func (.func g) #[] cap] 85)) 78 #[.string { data := #[] }, .int .u8 0, .int .u32 0]
  have b3 := Whole.made ((w.alloc (.cells #[.func (.func g) #[] cap] 85)).alloc (.cells #[.string { data := #[] }, .int .u8 0, .int .u32 0] 78)) 39 #[.int .i64 0, .int .i64 0]
  have b4 := Whole.made (((w.alloc (.cells #[.func (.func g) #[] cap] 85)).alloc (.cells #[.string { data := #[] }, .int .u8 0, .int .u32 0] 78)).alloc (.cells #[.int .i64 0, .int .i64 0] 39)) 78 #[.string { data := #[] }, .int .u8 0, .int .u32 0]
  simp only [World.size_alloc] at b2 b3 b4
  exact ⟨by simp [vWorldX], ((b1.alloc _).alloc _).alloc _, (b2.alloc _).alloc _, b3.alloc _, b4,
    ((((Below.refl _ _).alloc (Nat.le_refl _) _).alloc (by simp) _).alloc (by simp; omega) _).alloc (by simp; omega) _⟩
theorem value_outX {g : FuncId} {cap : Array Value} {q : Nat} {w : World} (hcf : ∀ w : World, (callFunc g cap).run Tryd.prog w = .ok (.enter g cap) w) (hq : q < w.heap.size)
    (hT : ∀ x W W' b, w.heap.size ≤ b → b < w.heap.size + 5 → T x W → W.grownBy W' (some b) → T x W')
    (h : ∀ W, Below w.heap.size w W → w.heap.size + 5 ≤ W.heap.size → Calls Tryd.prog g cap W fun e w' => ∃ x, e = .returned (exV x) ∧ T x w' ∧ W.grownBy w' (some q)) :
    Calls Tryd.prog 75 #[.func (.func 90) #[] #[.pointer (some ⟨w.heap.size, 0, none⟩), .pointer (some ⟨w.heap.size + 3, 0, none⟩)]] (vWorldX g cap w) fun e w' => e = .returned (.agg #[.int .i64 0, .int .i64 0]) ∧ ∃ x, VSX T w q x w' := by
  obtain ⟨hz, b1, b2, b3, b4, hbe⟩ := vWorld_factsX g cap w
  have b5 := Whole.made (vWorldX g cap w) 39 #[.int .i64 0, .int .i64 0]
  have hbe2 : Below w.heap.size w ((vWorldX g cap w).alloc (.cells #[.int .i64 0, .int .i64 0] 39)) := hbe.alloc (by omega) _
  have hc := valClosX (T := T) (z := #[.string { data := #[] }, .int .u8 0, .int .u32 0]) rfl hcf (b1.alloc (.cells #[.int .i64 0, .int .i64 0] 39)) (b4.alloc _) (by omega : q < w.heap.size + 3) (fun x W W' => hT x W W' _ (by omega) (by omega)) (h _ hbe2 (by rw [size_box]; omega))
  refine (out_any _ _ 0 0 (vWorldX g cap w) (fun w1 => (∃ x, VSX T w q x w1) ∧ Whole w1 (vWorldX g cap w).heap.size 39 #[.int .i64 0, .int .i64 0]) (cfVX _) (hc.mono ?_) (fun _ h => h.2)).mono ?_
  · rintro e w' ⟨rfl, x, hs, hv, w1, hg1, hg2⟩
    have hz2 : w.heap.size + 5 ≤ w1.heap.size := by have := hg1.size; simp only [World.size_alloc] at this; omega
    refine ⟨.inl ⟨rfl, rfl, rfl⟩, ⟨x, hs, ?_, hv, ?_, ?_⟩, ?_⟩
    · exact gb_before (gb_trans (gb_of_below (some q) hbe2) hg1) hg2 (fun g e => .inr (by injection e with e; omega))
    · exact ((b2.alloc _).grown hg1 (by simp only [ne_eq, Option.some.injEq]; omega)).grown hg2 (by simp only [ne_eq, Option.some.injEq]; omega)
    · exact ((b3.alloc _).grown hg1 (by simp only [ne_eq, Option.some.injEq]; omega)).grown hg2 (by simp only [ne_eq, Option.some.injEq]; omega)
    · exact (b5.grown hg1 (by simp only [ne_eq, Option.some.injEq]; omega)).grown hg2 (by simp only [ne_eq, Option.some.injEq]; omega)
  · rintro e w' ⟨rfl, w1, ⟨⟨x, hs⟩, _⟩, hg⟩
    rw [hz] at hg
    exact ⟨rfl, x, hT x _ _ _ (by omega) (by omega) hs.kept hg, gb_before hs.grown hg (fun g e => .inr (by injection e with e; omega)), hs.val.grown hg (by simp only [ne_eq, Option.some.injEq]; omega), hs.r1.grown hg (by simp only [ne_eq, Option.some.injEq]; omega), hs.r2.grown hg (by simp only [ne_eq, Option.some.injEq]; omega)⟩

set_option maxHeartbeats 800000 in
/-- Value of a function that ends well. -/
theorem valueX_ok {g : FuncId} {cap : Array Value} {q : Nat} {w : World} (hcf : ∀ w : World, (callFunc g cap).run Tryd.prog w = .ok (.enter g cap) w) (hq : q < w.heap.size)
    (hT : ∀ x W W' b, w.heap.size ≤ b → b < w.heap.size + 5 → T x W → W.grownBy W' (some b) → T x W')
    (h : ∀ W, Below w.heap.size w W → w.heap.size + 5 ≤ W.heap.size → Calls Tryd.prog g cap W fun e w' => ∃ x, e = .returned (exV x) ∧ T x w' ∧ W.grownBy w' (some q)) :
    Calls Tryd.prog 41 #[.func (.func g) #[] cap] w fun e w' => ∃ x, e = .returned (.tuple #[exV x, .agg #[.int .i64 0, .int .i64 0]]) ∧ T x w' ∧ w.grownBy w' (some q) := by
  have hv := value_outX hcf hq hT h
  unfold vWorldX at hv
  have HV := Lib.hid hv
  have HT := Lib.hid hT
  have hmf : ∀ (fn : Fn) (first cap : Array Value) (w : World), (Instr.makeFunc fn first cap).run Tryd.prog w = .ok (.func fn first cap) w := fun _ _ _ _ => rfl
  clear h hv hcf hT
  go_enter Tryd.func41, Tryd.ntmps41
  go_wp2_with (go_at_call 75; go_must (refine HV.out.mono ?_; rintro e w2 ⟨rfl, x, hl⟩; have k0 := fun o => (hl.val.alloc o).cell 0; have f0 := fun o => (hl.r1.alloc o).frozen 0; have m0 := fun o => (hl.r1.alloc o).cell 0; have k1 := fun o => (hl.val.alloc o).cell 1; have f1 := fun o => (hl.r1.alloc o).frozen 1; have m1 := fun o => (hl.r1.alloc o).cell 1; have k2 := fun o => (hl.val.alloc o).cell 2; have f2 := fun o => (hl.r1.alloc o).frozen 2; have m2 := fun o => (hl.r1.alloc o).cell 2; have f88 := fun o => (hl.r2.alloc o).frozen 0; have f99 := fun o => (hl.r2.alloc o).frozen 1; have m88 := fun o => (hl.r2.alloc o).cell 0; have m99 := fun o => (hl.r2.alloc o).cell 1; simp only [List.getElem?_toArray, List.getElem?_cons_zero, List.getElem?_cons_succ] at k0 k1 k2 m0 m1 m2 m88 m99; have hz := hl.grown.size; have HL := Lib.hid hl; clear hl))
  have hb : w.heap.size + 1 + 1 = w.heap.size + 2 := by omega
  rw [hb]
  obtain ⟨p1, g1⟩ := put3 (u0 := .string (S x.nam)) (u1 := .int .u8 x.kind.toNat) (u2 := .int .u32 x.idx.toNat) (HL.out.r1.alloc (.cells #[.int .i64 0, .int .i64 0] 39))
  obtain ⟨p2, g2⟩ := put2 (u0 := .int .i64 0) (u1 := .int .i64 0) ((HL.out.r2.alloc (.cells #[.int .i64 0, .int .i64 0] 39)).grown g1 (by simp only [ne_eq, Option.some.injEq]; omega))
  have p3 := p1.grown g2 (by simp only [ne_eq, Option.some.injEq]; omega)
  have q0 := p3.cell 0
  have q1 := p3.cell 1
  have q2 := p3.cell 2
  have q88 := p2.cell 0
  have q99 := p2.cell 1
  simp only [List.getElem?_toArray, List.getElem?_cons_zero, List.getElem?_cons_succ] at q0 q1 q2 q88 q99
  refine bodyPost_ret (v := .tuple #[exV x, .agg #[.int .i64 0, .int .i64 0]]) (by simp [results, Tryd.results41, go_sem, q0, q1, q2, q88, q99]) rfl ⟨x, rfl, ?_, ?_⟩
  · exact HT.out _ _ _ _ (by omega) (by omega) (HT.out _ _ _ _ (by omega) (by omega) (HT.out _ _ _ w.heap.size (Nat.le_refl _) (by omega) HL.out.kept (gb_alloc (gb_refl _ _) _)) g1) g2
  · exact gb_before (gb_before (gb_alloc HL.out.grown _) g1 (fun g e => .inr (by injection e with e; omega))) g2 (fun g e => .inr (by injection e with e; omega))
end
end Go.Proofs.YtanddfkhokcepaaDoor

/- abort.Value of a function that ends well, whatever it hands back: []api.Export. -/
namespace Go.Proofs.YtanddfkhokcepaaDoor
open Go.RowKit
set_option linter.unusedVariables false
set_option maxRecDepth 100000

theorem cfVY (cap : Array Value) (w : World) : (callFunc 92 cap).run Tryd.prog w = .ok (.enter 92 cap) w := by kernel_rfl
section
variable {T : (Option Addr × Nat × Nat) → World → Prop}
/-- Value's own closure: what the step hands back lies in its cell. -/
theorem valClosY {g : FuncId} {cap : Array Value} {b1 b4 q : Nat} {w : World} {z : Array Value} (hz : z.size = 1) (hcf : ∀ w : World, (callFunc g cap).run Tryd.prog w = .ok (.enter g cap) w)
    (h1 : Whole w b1 94 #[.func (.func g) #[] cap]) (h4 : Whole w b4 89 #[.slice none 0 0]) (hb : q < b4) (hT : ∀ x W W', T x W → W.grownBy W' (some b4) → T x W')
    (h : Calls Tryd.prog g cap w fun e w' => ∃ x, e = .returned (.slice x.1 x.2.1 x.2.2) ∧ T x w' ∧ w.grownBy w' (some q)) :
    Calls Tryd.prog 92 #[.pointer (some ⟨b1, 0, none⟩), .pointer (some ⟨b4, 0, none⟩)] w fun e w' =>
      e = .returned (.tuple #[]) ∧ ∃ x, T x w' ∧ Whole w' b4 89 #[.slice x.1 x.2.1 x.2.2] ∧ ∃ w1, w.grownBy w1 (some q) ∧ w1.grownBy w' (some b4) := by
  have hnil : ∀ w : World, (binOp BinOp.neq 94 (.func (.func g) #[] cap) .nilFunc).run Tryd.prog w = .ok (.bool true) w := fun _ => by kernel_rfl
  have c1 := h1.cell 0
  simp only [List.getElem?_toArray, List.getElem?_cons_zero] at c1
  have HH := Lib.hid h
  have H4 := Lib.hid h4
  have HT := Lib.hid hT
  clear h h1 h4 hT
  go_enter Tryd.func92, Tryd.ntmps92
  go_wp2_with fail
  refine HH.out.mono ?_
  rintro e w1 ⟨x, rfl, hs, hg⟩
  have HW := H4.out.grown hg (by simp only [ne_eq, Option.some.injEq]; omega)
  have k0 := HW.cell 0
  have f0 := HW.frozen 0
  simp only [List.getElem?_toArray, List.getElem?_cons_zero] at k0
  obtain ⟨p1, p2⟩ := put1 (u0 := .slice x.1 x.2.1 x.2.2) HW
  have F : Hid (T x (w1.setCell ⟨b4, 0, none⟩ (.slice x.1 x.2.1 x.2.2))) := HT.out _ _ _ hs p2
  have P1 := Lib.hid p1
  have P2 := Lib.hid p2
  have HG := Lib.hid hg
  clear p1 p2 hs hg HW hcf
  go_wp2_with fail
  go_end0
  exact ⟨rfl, x, F.out, P1.out, w1, HG.out, P2.out⟩
/-- What Value's closure leaves behind, seen from Value's beginning. -/
structure VSY (T : (Option Addr × Nat × Nat) → World → Prop) (w : World) (q : Nat) (x : (Option Addr × Nat × Nat)) (w1 : World) : Prop where
  kept : T x w1
  grown : w.grownBy w1 (some q)
  val : Whole w1 (w.heap.size + 2) 89 #[.slice x.1 x.2.1 x.2.2]
  r2 : Whole w1 (w.heap.size + 1) 39 #[.int .i64 0, .int .i64 0]
/-- The world in which Value calls Out. -/
def vWorldY (g : FuncId) (cap : Array Value) (w : World) : World :=
  ((w.alloc (.cells #[.func (.func g) #[] cap] 94)).alloc (.cells #[.int .i64 0, .int .i64 0] 39)).alloc (.cells #[.slice none 0 0] 89)
theorem vWorld_factsY (g : FuncId) (cap : Array Value) (w : World) : (vWorldY g cap w).heap.size = w.heap.size + 3 ∧ Whole (vWorldY g cap w) w.heap.size 94 #[.func (.func g) #[] cap] ∧
    Whole (vWorldY g cap w) (w.heap.size + 1) 39 #[.int .i64 0, .int .i64 0] ∧
    Whole (vWorldY g cap w) (w.heap.size + 2) 89 #[.slice none 0 0] ∧ Below w.heap.size w (vWorldY g cap w) := by
  have b1 := Whole.made w 94 #[.func (.func g) #[] cap]
  have b3 := Whole.made (w.alloc (.cells #[.func (.func g) #[] cap] 94)) 39 #[.int .i64 0, .int .i64 0]
  have b4 := Whole.made ((w.alloc (.cells #[.func (.func g) #[] cap] 94)).alloc (.cells #[.int .i64 0, .int .i64 0] 39)) 89 #[.slice none 0 0]
  simp only [World.size_alloc] at b3 b4
  exact ⟨by simp [vWorldY], (b1.alloc _).alloc _, b3.alloc _, b4,
    (((Below.refl _ _).alloc (Nat.le_refl _) _).alloc (by simp) _).alloc (by simp; omega) _⟩
theorem value_outY {g : FuncId} {cap : Array Value} {q : Nat} {w : World} (hcf : ∀ w : World, (callFunc g cap).run Tryd.prog w = .ok (.enter g cap) w) (hq : q < w.heap.size)
    (hT : ∀ x W W' b, w.heap.size ≤ b → b < w.heap.size + 4 → T x W → W.grownBy W' (some b) → T x W')
    (h : ∀ W, Below w.heap.size w W → w.heap.size + 4 ≤ W.heap.size → Calls Tryd.prog g cap W fun e w' => ∃ x, e = .returned (.slice x.1 x.2.1 x.2.2) ∧ T x w' ∧ W.grownBy w' (some q)) :
    Calls Tryd.prog 75 #[.func (.func 92) #[] #[.pointer (some ⟨w.heap.size, 0, none⟩), .pointer (some ⟨w.heap.size + 2, 0, none⟩)]] (vWorldY g cap w) fun e w' => e = .returned (.agg #[.int .i64 0, .int .i64 0]) ∧ ∃ x, VSY T w q x w' := by
  obtain ⟨hz, b1, b3, b4, hbe⟩ := vWorld_factsY g cap w
  have b5 := Whole.made (vWorldY g cap w) 39 #[.int .i64 0, .int .i64 0]
  have hbe2 : Below w.heap.size w ((vWorldY g cap w).alloc (.cells #[.int .i64 0, .int .i64 0] 39)) := hbe.alloc (by omega) _
  have hc := valClosY (T := T) (z := #[.slice none 0 0]) rfl hcf (b1.alloc (.cells #[.int .i64 0, .int .i64 0] 39)) (b4.alloc _) (by omega : q < w.heap.size + 2) (fun x W W' => hT x W W' _ (by omega) (by omega)) (h _ hbe2 (by rw [size_box]; omega))
  refine (out_any _ _ 0 0 (vWorldY g cap w) (fun w1 => (∃ x, VSY T w q x w1) ∧ Whole w1 (vWorldY g cap w).heap.size 39 #[.int .i64 0, .int .i64 0]) (cfVY _) (hc.mono ?_) (fun _ h => h.2)).mono ?_
  · rintro e w' ⟨rfl, x, hs, hv, w1, hg1, hg2⟩
    have hz2 : w.heap.size + 4 ≤ w1.heap.size := by have := hg1.size; simp only [World.size_alloc] at this; omega
    refine ⟨.inl ⟨rfl, rfl, rfl⟩, ⟨x, hs, ?_, hv, ?_⟩, ?_⟩
    · exact gb_before (gb_trans (gb_of_below (some q) hbe2) hg1) hg2 (fun g e => .inr (by injection e with e; omega))
    · exact ((b3.alloc _).grown hg1 (by simp only [ne_eq, Option.some.injEq]; omega)).grown hg2 (by simp only [ne_eq, Option.some.injEq]; omega)
    · exact (b5.grown hg1 (by simp only [ne_eq, Option.some.injEq]; omega)).grown hg2 (by simp only [ne_eq, Option.some.injEq]; omega)
  · rintro e w' ⟨rfl, w1, ⟨⟨x, hs⟩, _⟩, hg⟩
    rw [hz] at hg
    exact ⟨rfl, x, hT x _ _ _ (by omega) (by omega) hs.kept hg, gb_before hs.grown hg (fun g e => .inr (by injection e with e; omega)), hs.val.grown hg (by simp only [ne_eq, Option.some.injEq]; omega), hs.r2.grown hg (by simp only [ne_eq, Option.some.injEq]; omega)⟩

set_option maxHeartbeats 800000 in
/-- Value of a function that ends well. -/
theorem valueY_ok {g : FuncId} {cap : Array Value} {q : Nat} {w : World} (hcf : ∀ w : World, (callFunc g cap).run Tryd.prog w = .ok (.enter g cap) w) (hq : q < w.heap.size)
    (hT : ∀ x W W' b, w.heap.size ≤ b → b < w.heap.size + 4 → T x W → W.grownBy W' (some b) → T x W')
    (h : ∀ W, Below w.heap.size w W → w.heap.size + 4 ≤ W.heap.size → Calls Tryd.prog g cap W fun e w' => ∃ x, e = .returned (.slice x.1 x.2.1 x.2.2) ∧ T x w' ∧ W.grownBy w' (some q)) :
    Calls Tryd.prog 48 #[.func (.func g) #[] cap] w fun e w' => ∃ x, e = .returned (.tuple #[.slice x.1 x.2.1 x.2.2, .agg #[.int .i64 0, .int .i64 0]]) ∧ T x w' ∧ w.grownBy w' (some q) := by
  have hv := value_outY hcf hq hT h
  unfold vWorldY at hv
  have HV := Lib.hid hv
  have HT := Lib.hid hT
  have hmf : ∀ (fn : Fn) (first cap : Array Value) (w : World), (Instr.makeFunc fn first cap).run Tryd.prog w = .ok (.func fn first cap) w := fun _ _ _ _ => rfl
  clear h hv hcf hT
  go_enter Tryd.func48, Tryd.ntmps48
  go_wp2_with (go_at_call 75; go_must (refine HV.out.mono ?_; rintro e w2 ⟨rfl, x, hl⟩; have k0 := fun o => (hl.val.alloc o).cell 0; have f8 := fun o => (hl.r2.alloc o).frozen 0; have f9 := fun o => (hl.r2.alloc o).frozen 1; have m8 := fun o => (hl.r2.alloc o).cell 0; have m9 := fun o => (hl.r2.alloc o).cell 1; simp only [List.getElem?_toArray, List.getElem?_cons_zero, List.getElem?_cons_succ] at k0 m8 m9; have hz := hl.grown.size; have HL := Lib.hid hl; clear hl))
  obtain ⟨p2, g2⟩ := put2 (u0 := .int .i64 0) (u1 := .int .i64 0) (HL.out.r2.alloc (.cells #[.int .i64 0, .int .i64 0] 39))
  have q8 := p2.cell 0
  have q9 := p2.cell 1
  simp only [List.getElem?_toArray, List.getElem?_cons_zero, List.getElem?_cons_succ] at q8 q9
  refine bodyPost_ret (v := .tuple #[.slice x.1 x.2.1 x.2.2, .agg #[.int .i64 0, .int .i64 0]]) (by simp [results, Tryd.results48, go_sem, q8, q9]) rfl ⟨x, rfl, ?_, ?_⟩
  · exact HT.out _ _ _ _ (by omega) (by omega) (HT.out _ _ _ w.heap.size (Nat.le_refl _) (by omega) HL.out.kept (gb_alloc (gb_refl _ _) _)) g2
  · exact gb_before (gb_alloc HL.out.grown _) g2 (fun g e => .inr (by injection e with e; omega))
end
end Go.Proofs.YtanddfkhokcepaaDoor

/- exports.GetAll of a list's bytes; the laws' closures. -/
namespace Go.Proofs.YtanddfkhokcepaaDoor
open Go.RowKit
set_option linter.unusedVariables false
set_option maxRecDepth 100000

/-- What holds at the head of GetAll's loop. -/
structure AInE (w : World) (p : Nat) (l : List UInt8) (k : Nat) (xs : List Ex) (v : Value) (W : World) : Prop where
  sc : Sc W p l k
  g : w.grownBy W (some p)
  r : RowE W w.heap.size v xs
  tb : TbN p W
section
variable {w W W' : World} {p : Nat} {l : List UInt8} {k k' : Nat} {xs : List Ex} {x : Ex} {v v' : Value}
theorem AInE.step (h : AInE w p l k xs v W) (hp : p < w.heap.size) (hg : W.grownBy W' (some p)) (hs : Sc W' p l k') : AInE w p l k' xs v W' :=
  ⟨hs, gb_trans h.g hg, h.r.past hg hp, h.tb.keep hg (Nat.le_refl _)⟩
theorem AInE.alloc (h : AInE w p l k xs v W) (hp : p < w.heap.size) (o : Obj) : AInE w p l k xs v (W.alloc o) := h.step hp (gb_alloc (gb_refl _ _) o) (h.sc.alloc o)
theorem AInE.more (h : AInE w p l k xs v W) (hp : p < w.heap.size) (hg : W.grownBy W' v.ownBlock) (hr : RowE W' w.heap.size v' (xs ++ [x])) : AInE w p l k (xs ++ [x]) v' W' := by
  have hlt := World.ownsRow.lt h.r
  refine ⟨h.sc.grown hg (fun e => by have := hlt p e.symm; omega) (fun g e => by have := hlt g e; omega), gb_before h.g hg (fun g e => .inr (hlt g e).1), hr, ?_⟩
  obtain ⟨⟨h1, h2⟩, h3, h4, h5⟩ := h.tb
  have key : ∀ b o, b < p → W'.cell? ⟨b, o, none⟩ = W.cell? ⟨b, o, none⟩ := fun b o hb => by
    unfold World.cell?
    rw [hg.block b (by omega) (fun e => by have := hlt b e.symm; omega)]
  exact ⟨⟨fun c hc => (key _ _ h3).trans (h1 c hc), fun i hi => ⟨(key _ _ h4).trans (h2 i hi).1, (key _ _ h4).trans (h2 i hi).2⟩⟩, h3, h4, Nat.le_trans h5 hg.size⟩
end
/-- The list that was read. -/
def GotAllE (p : Nat) (l : List UInt8) (xs : List Ex) (w : World) (e : Ending) (w' : World) : Prop := ∃ v, e = .returned v ∧ RowE w' w.heap.size v xs ∧ Sc w' p l l.length ∧ w.grownBy w' (some p)
theorem cfEG (a : Array Value) (w : World) : (callFunc 43 a).run Tryd.prog w = .ok (.enter 43 a) w := by kernel_rfl
set_option maxHeartbeats 4000000 in
theorem wgetall_ex {w : World} {p : Nat} {l : List UInt8} {xs : List Ex} (h : Sc w p l 0) (hT : TbN p w) (hd : l = allE xs) (hz : errE xs = 0) (hn1 : xs.length ≤ 1000) :
    Calls Tryd.prog 93 #[.pointer (some ⟨p, 0, none⟩), .func (.func 43) #[] #[]] w (GotAllE p l xs w) := by
  have hp := h.lt
  have hd0 : l.drop 0 = lebL (xs.length : Int) ++ eputsL xs := by rw [hd]; rfl
  have hc := count_scan h
  rw [countR_at hd0 (by omega) (by omega)] at hc
  have hd1 := drop_past hd0
  rw [Nat.zero_add] at hc hd1
  have HC := Lib.hid hc
  obtain ⟨n, hn⟩ : ∃ n, n = xs.length := ⟨_, rfl⟩
  rw [← hn] at HC hn1
  have HN := Lib.hid hn
  have HE := Lib.hid (show xs.take n = xs ∧ xs.drop n = [] by rw [hn]; exact ⟨List.take_length, List.drop_length⟩)
  have HM := Lib.hid (errE_mem hz)
  have HT := Lib.hid hT
  obtain ⟨k0, hk0⟩ : ∃ k0, k0 = (lebL (n : Int)).length := ⟨_, rfl⟩
  rw [← hn, ← hk0] at hd1
  rw [← hk0] at HC
  have HD := Lib.hid hd1
  have hcf := cfEG
  clear h hT hd hd0 hc hz hn hd1 hk0
  go_enter Tryd.func93, Tryd.ntmps93
  go_wp2_with (go_at_call 118; go_must ((with_reducible refine HC.out.mono ?_); rintro e w1 ⟨rfl, hs, hg⟩; have HS := Lib.hid hs; have HG := Lib.hid hg; clear hs hg))
  go_loopw [5, 8] (fun v i wr => ∃ j k : Nat, j ≤ n ∧ i = .int .i64 j ∧ AInE w p l k (xs.take j) v wr ∧ l.drop k = eputsL (xs.drop j)) (fun _ i _ => n - (intOf i).toNat)
  case atStart => exact ⟨0, k0, Nat.zero_le _, rfl, ⟨HS.out, HG.out, RowE.nil _ _, HT.out.keep HG.out (Nat.le_refl _)⟩, HD.out⟩
  case round =>
    obtain ⟨j, k, hj, rfl, ha, hdk⟩ := hrel
    by_cases hlt : j < n
    · obtain ⟨x, hx⟩ : ∃ x, xs[j]? = some x := ⟨_, List.getElem?_eq_getElem (by rw [← HN.out]; exact hlt)⟩
      have hj2 : j < xs.length := by rw [← HN.out]; exact hlt
      have hdx : xs.drop j = x :: xs.drop (j + 1) := by
        obtain ⟨q1, q2⟩ := List.getElem?_eq_some_iff.1 hx
        rw [List.drop_eq_getElem_cons q1, q2]
      have hdk2 : l.drop k = eputL x ++ eputsL (xs.drop (j + 1)) := by rw [hdk, hdx]; unfold eputsL; rw [List.flatMap_cons]
      have HGe := Lib.hid (get_ex ha.sc ha.tb hdk2 (HM.out x (List.mem_of_getElem? hx)))
      have HDK := Lib.hid (drop_past hdk2)
      have HTk := Lib.hid (show xs.take (j + 1) = xs.take j ++ [x] by rw [List.take_add_one, hx]; rfl)
      have HA := Lib.hid ha
      have hle : (xs.take j).length ≤ 10000 := by rw [List.length_take]; omega
      clear ha hdk hdk2 hdx hx hj2
      go_wp2_with (first
        | (go_at_call 43; go_must ((with_reducible refine HGe.out.mono ?_); rintro e w2 ⟨rfl, hs, hg⟩; have HA2 := Lib.hid (HA.out.step hp hg hs); have hz2 := HA2.out.g.size; have HX := Lib.hid (Whole.made w2 78 (exC x)); clear hs hg))
        | (at_builtin; (refine rowE_new rfl _ _ rfl w.heap.size _ (xs.take j) rfl (HA2.out.alloc hp _).r w2.heap.size x rfl HX.out hle (Nat.le_trans hz2 (below_box w2 _).size) ?_; intro v3 w3 hr3 hg3; have HA3 := Lib.hid ((HA2.out.alloc hp _).more hp hg3 hr3); clear hr3 hg3)))
      go_roundw
      case rel => exact ⟨j + 1, k + (eputL x).length, by omega, by go_num, by rw [HTk.out]; exact HA3.out, HDK.out⟩
      case measure => simp [intOf]; omega
    · obtain rfl : j = n := by omega
      rw [HE.out.1] at ha
      rw [HE.out.2] at hdk
      have hkl : k = l.length := by
        have e := congrArg List.length hdk
        rw [List.length_drop] at e
        have := ha.sc.le.1
        simp [eputsL] at e
        omega
      subst hkl
      have HA := Lib.hid ha
      have HEn := Lib.hid (end_ok ha.sc)
      clear ha hdk
      go_wp2_with (go_at_call 119; go_must ((with_reducible refine HEn.out.mono ?_); rintro e w2 ⟨rfl, m, rfl⟩))
      go_ret
      have HA2 := HA.out.step hp (gb_drewN (gb_refl _ _) m) (HA.out.sc.drewN m)
      exact ⟨_, rfl, HA2.r, HA2.sc, HA2.g⟩
theorem getall_ex {w : World} {p : Nat} {l : List UInt8} {xs : List Ex} (h : Sc w p l 0) (hT : TbN p w) (hd : l = allE xs) (hz : errE xs = 0) (hn1 : xs.length ≤ 1000) :
    Calls Tryd.prog 50 #[.pointer (some ⟨p, 0, none⟩)] w (GotAllE p l xs w) := by
  have HP := Lib.hid (wgetall_ex h hT hd hz hn1)
  unfold GotAllE at HP
  clear h hT hd hz hn1
  go_enter Tryd.func50, Tryd.ntmps50
  go_wp2_with (go_at_call 93; go_must ((with_reducible refine HP.out.mono ?_); intro e w1 hq; obtain ⟨v, rfl, hr, hs, hg⟩ := hq; have HR := Lib.hid hr; have HS := Lib.hid hs; have HG := Lib.hid hg; clear hr hs hg))
  go_ret
  exact ⟨_, rfl, HR.out, HS.out, HG.out⟩
theorem cfE1 (cap : Array Value) (w : World) : (callFunc 42 cap).run Tryd.prog w = .ok (.enter 42 cap) w := by kernel_rfl
theorem cfE2 (cap : Array Value) (w : World) : (callFunc 49 cap).run Tryd.prog w = .ok (.enter 49 cap) w := by kernel_rfl
set_option maxHeartbeats 4000000 in
theorem closE1 {w : World} {p b : Nat} {l : List UInt8} {k : Nat} {x : Ex} (hb : Whole w b 54 #[.pointer (some ⟨p, 0, none⟩)])
    (hG : ∀ W, Below w.heap.size w W → Calls Tryd.prog 43 #[.pointer (some ⟨p, 0, none⟩)] W (GotE p l k x W)) (hp : p < w.heap.size) :
    Calls Tryd.prog 42 #[.pointer (some ⟨b, 0, none⟩)] w (GotE p l k x w) := by
  have c0 := hb.cell 0
  simp only [List.getElem?_toArray, List.getElem?_cons_zero] at c0
  have HGt := Lib.hid (hG _ (below_box w (.cells #[.string { data := #[] }, .int .u8 0, .int .u32 0] 78)))
  have HWM := Lib.hid (Whole.made w 78 (exC exZ))
  rw [exC_zero] at HWM
  have c0' : ∀ o, (w.alloc o).cell? ⟨b, 0, none⟩ = some (.pointer (some ⟨p, 0, none⟩)) := fun o => (hb.alloc o).cell 0
  clear hb hG c0
  go_enter Tryd.func42, Tryd.ntmps42
  go_wp2_with (go_at_call 43; go_must ((with_reducible refine HGt.out.mono ?_); rintro e w1 ⟨rfl, hs, hg⟩; have HS := Lib.hid hs; have HG := Lib.hid hg; have HW1 := Lib.hid (HWM.out.grown hg (by simp only [ne_eq, Option.some.injEq]; omega)); obtain ⟨k0, k1, k2⟩ := (show Whole w1 w.heap.size 78 (exC exZ) from HW1.out).ex; have f0 := HW1.out.frozen 0; have f1 := HW1.out.frozen 1; have f2 := HW1.out.frozen 2; clear hs hg))
  obtain ⟨h1, h2⟩ := put3 (u0 := .string (S x.nam)) (u1 := .int .u8 x.kind.toNat) (u2 := .int .u32 x.idx.toNat) HW1.out
  obtain ⟨q0, q1, q2⟩ := Whole.ex (x := x) h1
  exact bodyPost_ret (v := exV x) (by simp [results, Tryd.results42, go_sem, q0, q1, q2]) rfl ⟨rfl, HS.out.grown h2 (by simp only [ne_eq, Option.some.injEq]; omega) (fun g e => by injection e with e; omega), gb_before (gb_trans (gb_alloc (gb_refl _ _) _) HG.out) h2 (fun g e => .inr (by injection e with e; omega))⟩
theorem closE2 {w : World} {p b : Nat} {l : List UInt8} {xs : List Ex} (hb : Whole w b 54 #[.pointer (some ⟨p, 0, none⟩)])
    (hG : Calls Tryd.prog 50 #[.pointer (some ⟨p, 0, none⟩)] w (GotAllE p l xs w)) :
    Calls Tryd.prog 49 #[.pointer (some ⟨b, 0, none⟩)] w (GotAllE p l xs w) := by
  have c0 := hb.cell 0
  simp only [List.getElem?_toArray, List.getElem?_cons_zero] at c0
  have HGt := Lib.hid hG
  clear hb hG
  go_enter Tryd.func49, Tryd.ntmps49
  go_wp2_with (go_at_call 50; go_must ((with_reducible refine HGt.out.mono ?_); intro e w1 hq; obtain ⟨v, rfl, hr, hs, hg⟩ := hq; have HR := Lib.hid hr; have HS := Lib.hid hs; have HG := Lib.hid hg; clear hr hs hg))
  go_ret
  exact ⟨_, rfl, HR.out, HS.out, HG.out⟩
end Go.Proofs.YtanddfkhokcepaaDoor

/- exports.Find, Twice (with its set of names), Names; creelref11.Twice, Names, SameTexts. -/
namespace Go.Proofs.YtanddfkhokcepaaDoor
open Go.RowKit Go.Maps
set_option linter.unusedVariables false
set_option maxRecDepth 100000

/-- The first of a name. -/
def fdE (nm : List UInt8) : List Ex → Option Ex
  | [] => none
  | x :: r => if x.nam = nm then some x else fdE nm r
theorem fdE_drop {nm : List UInt8} {l : List Ex} {k : Nat} {x : Ex} (h : l[k]? = some x) : fdE nm (l.drop k) = if x.nam = nm then some x else fdE nm (l.drop (k + 1)) := by
  obtain ⟨h1, h2⟩ := List.getElem?_eq_some_iff.1 h
  rw [List.drop_eq_getElem_cons h1, h2]
  rfl
def fdV (r : Option Ex) : Value := match r with
  | some x => .tuple #[exV x, .bool true]
  | none => .tuple #[.agg #[.string { data := #[] }, .int .u8 0, .int .u32 0], .bool false]
set_option maxHeartbeats 2000000 in
theorem find_ex {w : World} {A : Option Addr} {c : Nat} {l : List Ex} (nm : List UInt8) (hl : Exs w A l) (hn1 : l.length ≤ 10000) :
    Calls Tryd.prog 51 #[.slice A l.length c, .string (S nm)] w fun e w' => e = .returned (fdV (fdE nm l)) ∧ Below w.heap.size w w' := by
  have HL := Lib.hid hl
  obtain ⟨n, hn⟩ : ∃ n, n = l.length := ⟨_, rfl⟩
  have HN := Lib.hid hn
  rw [← hn] at hn1 ⊢
  obtain ⟨an, han⟩ : ∃ an, an = fdE nm l := ⟨_, rfl⟩
  rw [← han]
  have HE := Lib.hid (show l.drop n = [] by rw [hn, List.drop_length])
  have HA := Lib.hid han
  have HZ0 := Lib.hid (Whole.made w 78 #[.string { data := #[] }, .int .u8 0, .int .u32 0])
  have HB0 := Lib.hid (below_box w (.cells #[.string { data := #[] }, .int .u8 0, .int .u32 0] 78))
  have hz0 : w.heap.size < (w.alloc (.cells #[.string { data := #[] }, .int .u8 0, .int .u32 0] 78)).heap.size := by rw [size_box]; omega
  clear hl hn han
  go_enter Tryd.func51, Tryd.ntmps51
  go_wp2
  go_loopw [10] (fun i wr => ∃ k : Nat, k ≤ n ∧ i = .int .i64 k ∧ an = fdE nm (l.drop k) ∧ Below w.heap.size w wr ∧ Whole wr w.heap.size 78 #[.string { data := #[] }, .int .u8 0, .int .u32 0]) (fun i _ => n - (intOf i).toNat)
  case atStart => exact ⟨0, Nat.zero_le _, rfl, HA.out, HB0.out, HZ0.out⟩
  case round =>
    obtain ⟨k, hk, rfl, han, hb, hw⟩ := hrel
    have hz1 := hb.size
    have hwz := hw.lt
    by_cases hlt : k < n
    · obtain ⟨x, hx⟩ : ∃ x, l[k]? = some x := ⟨_, List.getElem?_eq_getElem (by rw [← HN.out]; exact hlt)⟩
      obtain ⟨b, off, rfl, hbl, m0, m1, m2⟩ := (HL.out.below hb).three hx
      have hst := fdE_drop (nm := nm) hx
      have HB := Lib.hid (hb.alloc hz1 (.cells (exC x) 78))
      have HW := Lib.hid (hw.alloc (.cells (exC x) 78))
      by_cases e : x.nam = nm
      · rw [if_pos e] at hst
        have HAN := Lib.hid (han.trans hst)
        have d1 : ((S x.nam).toList == (S nm).toList) = true := by rw [S_beqM, decide_eq_true e]
        have z0 := hw.cell 0
        have z1 := hw.cell 1
        have z2 := hw.cell 2
        have f0 := hw.frozen 0
        have f1 := hw.frozen 1
        have f2 := hw.frozen 2
        simp only [List.getElem?_toArray, List.getElem?_cons_zero, List.getElem?_cons_succ] at z0 z1 z2
        have HB0 := Lib.hid hb
        have HW0 := Lib.hid hw
        clear e hst han hb hw
        go_wp2
        obtain ⟨p0, g0⟩ := put3 (u0 := .string (S x.nam)) (u1 := .int .u8 x.kind.toNat) (u2 := .int .u32 x.idx.toNat) HW0.out
        have p1 := p0.alloc (.cells (exC x) 78)
        have g1 := gb_alloc g0 (.cells (exC x) 78)
        obtain ⟨q0, q1, q2⟩ := Whole.ex (x := x) p1
        refine bodyPost_ret (v := .tuple #[exV x, .bool true]) (by simp [results, Tryd.results51, go_sem, q0, q1, q2]) rfl ⟨?_, below_new HB0.out g1 (Nat.le_refl _)⟩
        rw [HAN.out]; rfl
      · rw [if_neg e] at hst
        have HAN := Lib.hid (han.trans hst)
        have d1 : ((S x.nam).toList == (S nm).toList) = false := by rw [S_beqM, decide_eq_false e]
        clear e hst han hb hw
        go_wp2
        go_roundw
        case rel => exact ⟨k + 1, by omega, by go_num, HAN.out, HB.out, HW.out⟩
        case measure => simp [intOf]; omega
    · obtain rfl : k = n := by omega
      have HB := Lib.hid hb
      have HW := Lib.hid hw
      rw [HE.out] at han
      have HAN := Lib.hid han
      have z0 := hw.cell 0
      have z1 := hw.cell 1
      have z2 := hw.cell 2
      have f0 := hw.frozen 0
      have f1 := hw.frozen 1
      have f2 := hw.frozen 2
      simp only [List.getElem?_toArray, List.getElem?_cons_zero, List.getElem?_cons_succ] at z0 z1 z2
      clear hb hw han
      go_wp2
      obtain ⟨p1, g1⟩ := put3 (u0 := .string { data := #[] }) (u1 := .int .u8 0) (u2 := .int .u32 0) HW.out
      have q0 := p1.cell 0
      have q1 := p1.cell 1
      have q2 := p1.cell 2
      simp only [List.getElem?_toArray, List.getElem?_cons_zero, List.getElem?_cons_succ] at q0 q1 q2
      refine bodyPost_ret (v := .tuple #[.agg #[.string { data := #[] }, .int .u8 0, .int .u32 0], .bool false]) (by simp [results, Tryd.results51, go_sem, q0, q1, q2]) rfl ⟨?_, below_new HB.out g1 (Nat.le_refl _)⟩
      rw [HAN.out]; rfl

/-! ### Twice -/
theorem lawStr : Keyed Tryd.prog 9 := string_keyed Tryd.underlying9
theorem zeroUnit (w : World) : (zeroValue 138).run Tryd.prog w = .ok (.agg #[]) w := by kernel_rfl
/-- The set of these names, as the map reads. -/
def setN (seen : List (List UInt8)) : DataW Unit := setOf (.agg []) (seen.map Lit.string)
theorem any_str (s : List UInt8) : ∀ l : List (List UInt8), (l.map Lit.string).any (fun y => y.sameKey (.string s)) = decide (s ∈ l)
  | [] => rfl
  | a :: r => by
    rw [List.map_cons, List.any_cons, any_str s r]
    have e1 : (Lit.string a).sameKey (.string s) = decide (s = a) := by
      show (a == s) = decide (s = a)
      by_cases e : a = s
      · subst e; simp
      · have e2 : ¬ s = a := fun h => e h.symm
        simp [e, e2]
    rw [e1]
    by_cases h1 : s = a <;> by_cases h2 : s ∈ r <;> simp [h1, h2]
theorem has_setN (seen : List (List UInt8)) (s : List UInt8) : Maps.has (setN seen) (.string s) = decide (s ∈ seen) := by
  unfold setN
  rw [has_setOf _ _ _ (fun y hy => by obtain ⟨_, _, rfl⟩ := List.mem_map.1 hy; trivial)]
  exact any_str s seen
theorem setN_snoc (seen : List (List UInt8)) (s : List UInt8) : setN (seen ++ [s]) = (setN seen).put (.string s) (.agg []) := by
  unfold setN
  rw [List.map_append, List.map_singleton, setOf_snoc]
/-- The first name that is there already. -/
def twG (seen : List (List UInt8)) : List Ex → Option (List UInt8)
  | [] => none
  | x :: r => if x.nam ∈ seen then some x.nam else twG (seen ++ [x.nam]) r
/-- .. and where it stands. -/
def twN (seen : List (List UInt8)) (i : Nat) : List Ex → Option Nat
  | [] => none
  | x :: r => if x.nam ∈ seen then some i else twN (seen ++ [x.nam]) (i + 1) r
def nms (l : List Ex) : List (List UInt8) := l.map (·.nam)
theorem nms_take {l : List Ex} {k : Nat} {x : Ex} (h : l[k]? = some x) : nms (l.take (k + 1)) = nms (l.take k) ++ [x.nam] := by
  unfold nms
  rw [List.take_add_one, h, List.map_append]
  rfl
theorem twG_drop {l : List Ex} {k : Nat} {x : Ex} (h : l[k]? = some x) (seen : List (List UInt8)) : twG seen (l.drop k) = if x.nam ∈ seen then some x.nam else twG (seen ++ [x.nam]) (l.drop (k + 1)) := by
  obtain ⟨h1, h2⟩ := List.getElem?_eq_some_iff.1 h
  rw [List.drop_eq_getElem_cons h1, h2]
  rfl
theorem twN_drop {l : List Ex} {k : Nat} {x : Ex} (h : l[k]? = some x) (seen : List (List UInt8)) (i : Nat) : twN seen i (l.drop k) = if x.nam ∈ seen then some i else twN (seen ++ [x.nam]) (i + 1) (l.drop (k + 1)) := by
  obtain ⟨h1, h2⟩ := List.getElem?_eq_some_iff.1 h
  rw [List.drop_eq_getElem_cons h1, h2]
  rfl
/-- The two tell the same. -/
theorem tw_both : ∀ (r : List Ex) (seen : List (List UInt8)) (i : Nat), (twN seen i r = none ∧ twG seen r = none) ∨ ∃ j x, twN seen i r = some (i + j) ∧ r[j]? = some x ∧ twG seen r = some x.nam
  | [], _, _ => .inl ⟨rfl, rfl⟩
  | y :: r, seen, i => by
    by_cases h : y.nam ∈ seen
    · exact .inr ⟨0, y, by simp [twN, h], rfl, by simp [twG, h]⟩
    · rcases tw_both r (seen ++ [y.nam]) (i + 1) with ⟨h1, h2⟩ | ⟨j, x, h1, h2, h3⟩
      · exact .inl ⟨by simp [twN, h, h1], by simp [twG, h, h2]⟩
      · refine .inr ⟨j + 1, x, ?_, by simpa using h2, by simp [twG, h, h3]⟩
        simp [twN, h, h1]
        omega
def twV (r : Option (List UInt8)) : Value := match r with
  | some s => .tuple #[.string (S s), .bool true]
  | none => .tuple #[.string { data := #[] }, .bool false]
/-- The names are no longer than a string can be. -/
def FitsE (l : List Ex) : Prop := ∀ x ∈ l, x.nam.length ≤ maxLen
set_option maxHeartbeats 2000000 in
theorem twice_ex {w : World} {A : Option Addr} {c : Nat} {l : List Ex} (hl : Exs w A l) (hn1 : l.length ≤ 10000) (hf : FitsE l) :
    Calls Tryd.prog 52 #[.slice A l.length c] w fun e w' => e = .returned (twV (twG [] l)) ∧ Below w.heap.size w w' := by
  have hmm := @run_makeMap Tryd.prog
  have HL := Lib.hid hl
  have HF := Lib.hid hf
  obtain ⟨n, hn⟩ : ∃ n, n = l.length := ⟨_, rfl⟩
  have HN := Lib.hid hn
  rw [← hn] at hn1 ⊢
  obtain ⟨an, han⟩ : ∃ an, an = twG [] l := ⟨_, rfl⟩
  rw [← han]
  have HE := Lib.hid (show l.drop n = [] by rw [hn, List.drop_length])
  have HA := Lib.hid han
  have HM0 := Lib.hid (World.ownsMap_made w Tryd.prog 9 (unitElem (H := Unit)))
  have HB0 := Lib.hid (below_box w (.map #[] 0))
  clear hl hn han hf
  go_enter Tryd.func52, Tryd.ntmps52
  go_wp2
  go_loopw [12] (fun i wr => ∃ k : Nat, k ≤ n ∧ i = .int .i64 k ∧ an = twG (nms (l.take k)) (l.drop k) ∧ wr.ownsMap Tryd.prog 9 (unitElem (H := Unit)) w.heap.size k (setN (nms (l.take k))) ∧ Below w.heap.size w wr) (fun i _ => n - (intOf i).toNat)
  case atStart => exact ⟨0, Nat.zero_le _, rfl, HA.out, HM0.out, HB0.out⟩
  case round =>
    obtain ⟨k, hk, rfl, han, hown, hb⟩ := hrel
    have hz1 := hb.size
    by_cases hlt : k < n
    · obtain ⟨x, hx⟩ : ∃ x, l[k]? = some x := ⟨_, List.getElem?_eq_getElem (by rw [← HN.out]; exact hlt)⟩
      obtain ⟨b, off, rfl, hbl, m0, m1, m2⟩ := (HL.out.below hb).three hx
      have hst := twG_drop hx (nms (l.take k))
      have hnt := nms_take hx
      have hkey : keyOf Tryd.prog 9 (.string (S x.nam)) = some (.string x.nam) := by
        have := Go.WideMaps.keyOf_string_mk (P := Tryd.prog) (k := 9) Tryd.underlying9 (s := S x.nam) (by rw [S_size]; exact HF.out x (List.mem_of_getElem? hx))
        simpa [S] using this
      have hha := has_setN (nms (l.take k)) x.nam
      obtain ⟨D, hD⟩ : ∃ D, D = setN (nms (l.take k)) := ⟨_, rfl⟩
      rw [← hD] at hown hha
      have HO := Lib.hid (hown.alloc (.cells (exC x) 78))
      have HOS := Lib.hid (show Hid ((D.put (.string x.nam) (.agg [])) = setN (nms (l.take (k + 1)))) from Lib.hid (by rw [hnt, setN_snoc, hD]))
      have hb2 := hb.alloc hz1 (.cells (exC x) 78)
      have HB2 := Lib.hid (hb2.alloc (hb2.size) (.cells #[] 138))
      have hnew := (Whole.made wr 78 (exC x)).ex
      have e0 : ∀ o, ((wr.alloc (.cells (exC x) 78)).alloc o).cell? ⟨wr.heap.size, 0, none⟩ = some (.string (S x.nam)) := fun o => ((Whole.made wr 78 (exC x)).alloc o).ex.1
      by_cases e : x.nam ∈ nms (l.take k)
      · rw [if_pos e] at hst
        have HAN := Lib.hid (han.trans hst)
        rw [decide_eq_true e] at hha
        clear e hst han hown hb hb2 hnt hnew hx hD
        go_wp2_with (first
          | (at_lookup; refine wpList_lookup_own_unit _ rfl _ _ 137 rfl 9 138 lawStr Tryd.underlying137 (zeroUnit _) w.heap.size k D rfl HO.out _ _ rfl hkey ?_)
          | go_in)
        go_ret2
        exact ⟨by rw [HAN.out]; rfl, HB2.out⟩
      · rw [if_neg e] at hst
        have HAN := Lib.hid (han.trans hst)
        rw [decide_eq_false e] at hha
        have HNT := Lib.hid hnt
        clear e hst han hown hb hb2 hnt hnew hx hD
        go_wp2_with (first
          | (at_lookup; refine wpList_lookup_own_unit _ rfl _ _ 137 rfl 9 138 lawStr Tryd.underlying137 (zeroUnit _) w.heap.size k D rfl HO.out _ _ rfl hkey ?_)
          | (at_mapUpdate; refine wpList_mapUpdate_own _ rfl _ _ _ 137 rfl 9 138 lawStr Tryd.underlying137 (unitElem (H := Unit)) w.heap.size k D rfl (HO.out.alloc _) (by unfold maxLen; omega) _ _ _ rfl rfl hkey _ [] unitElem_mk ?_; intro w3 hown3 hgrow3; have HO3 := Lib.hid hown3; have HB3 := Lib.hid (HB2.out.grown hgrow3 (HB2.out.size) (fun j hj => by cases hj; exact Nat.le_refl _)); clear hown3 hgrow3)
          | go_in)
        go_roundw
        case rel => exact ⟨k + 1, by omega, by go_num, by rw [HNT.out]; exact HAN.out, by rw [← HOS.out.out]; exact HO3.out, HB3.out⟩
        case measure => simp [intOf]; omega
    · obtain rfl : k = n := by omega
      have HB := Lib.hid hb
      rw [HE.out] at han
      have HAN := Lib.hid han
      clear hb hown han
      go_wp2
      go_ret2
      exact ⟨by rw [HAN.out]; rfl, HB.out⟩
def twZ (r : Option Nat) : Int := match r with
  | some i => i
  | none => -1
set_option maxHeartbeats 2000000 in
theorem rtwice_ex {w : World} {A : Option Addr} {c : Nat} {l : List Ex} (hl : Exs w A l) (hn1 : l.length ≤ 10000) :
    Calls Tryd.prog 53 #[.slice A l.length c] w fun e w' => e = .returned (.int .i64 (twZ (twN [] 0 l))) ∧ Below w.heap.size w w' := by
  have HL := Lib.hid hl
  obtain ⟨n, hn⟩ : ∃ n, n = l.length := ⟨_, rfl⟩
  have HN := Lib.hid hn
  rw [← hn] at hn1 ⊢
  obtain ⟨an, han⟩ : ∃ an, an = twN [] 0 l := ⟨_, rfl⟩
  rw [← han]
  have HE := Lib.hid (show l.drop n = [] by rw [hn, List.drop_length])
  have HA := Lib.hid han
  clear hl hn han
  go_enter Tryd.func53, Tryd.ntmps53
  go_wp2
  go_loopw [3] (fun i wr => ∃ k : Nat, k ≤ n ∧ i = .int .i64 k ∧ an = twN (nms (l.take k)) k (l.drop k) ∧ Below w.heap.size w wr) (fun i _ => n - (intOf i).toNat)
  case atStart => exact ⟨0, Nat.zero_le _, rfl, HA.out, Below.refl _ _⟩
  case round =>
    obtain ⟨k, hk, rfl, han, hb⟩ := hrel
    by_cases hlt : k < n
    · obtain ⟨x, hx⟩ : ∃ x, l[k]? = some x := ⟨_, List.getElem?_eq_getElem (by rw [← HN.out]; exact hlt)⟩
      have HX := Lib.hid hx
      have HNT := Lib.hid (nms_take hx)
      have HST := Lib.hid (han.trans (twN_drop hx (nms (l.take k)) k))
      have HB := Lib.hid hb
      clear han hx hb
      go_wp2
      go_loopw [4] (fun i wr2 => ∃ m : Nat, m ≤ k ∧ i = .int .i64 m ∧ x.nam ∉ nms (l.take m) ∧ Below w.heap.size w wr2) (fun i _ => k - (intOf i).toNat)
      case atStart => exact ⟨0, Nat.zero_le _, rfl, by simp [nms], HB.out⟩
      case round =>
        obtain ⟨m, hm, rfl, hno, hb⟩ := hrel
        by_cases hlt2 : m < k
        · obtain ⟨y, hy⟩ : ∃ y, l[m]? = some y := ⟨_, List.getElem?_eq_getElem (by rw [← HN.out]; omega)⟩
          obtain ⟨b, off, rfl, hbl, m0, m1, m2⟩ := (HL.out.below hb).three HX.out
          obtain ⟨b', off', hA', hbl', p0, p1, p2⟩ := (HL.out.below hb).three hy
          injection hA' with hA'
          injection hA' with e1 e2
          subst e1; subst e2
          have hnt := nms_take hy
          have HB2 := Lib.hid hb
          have hmn : m < n := by omega
          by_cases e : x.nam = y.nam
          · have d1 : ((S x.nam).toList == (S y.nam).toList) = true := by rw [S_beqM, decide_eq_true e]
            have hin : x.nam ∈ nms (l.take k) := by
              have : y.nam ∈ nms (l.take k) := List.mem_map.2 ⟨y, List.mem_of_getElem? (i := m) (by rw [List.getElem?_take, if_pos hlt2]; exact hy), rfl⟩
              rwa [e]
            have HAN := Lib.hid (HST.out.trans (if_pos hin))
            clear e hin hnt hno hb hy
            go_wp2
            go_quiet (fail)
            go_wp2
            go_ret
            exact ⟨by rw [HAN.out]; rfl, below_drewN HB2.out _⟩
          · have d1 : ((S x.nam).toList == (S y.nam).toList) = false := by rw [S_beqM, decide_eq_false e]
            have HNO := Lib.hid (show x.nam ∉ nms (l.take (m + 1)) by rw [hnt]; simp [hno, e])
            clear e hnt hno hb hy
            go_wp2
            go_quiet (fail)
            go_wp2
            go_roundw
            case rel => exact ⟨m + 1, by omega, by go_num, HNO.out, below_drewN HB2.out _⟩
            case measure => simp [intOf]; omega
        · obtain rfl : m = k := by omega
          have HAN := Lib.hid (HST.out.trans (if_neg hno))
          have HB2 := Lib.hid hb
          clear hno hb
          go_wp2
          go_roundw
          case rel => exact ⟨m + 1, by omega, by go_num, by rw [HNT.out]; exact HAN.out, HB2.out⟩
          case measure => simp [intOf]; omega
    · obtain rfl : k = n := by omega
      have HB := Lib.hid hb
      rw [HE.out] at han
      have HAN := Lib.hid han
      clear hb han
      go_wp2
      go_ret
      exact ⟨by rw [HAN.out]; rfl, HB.out⟩
end Go.Proofs.YtanddfkhokcepaaDoor

/- Rows of strings of the call's own; exports.Names; creelref11.Names, SameTexts. -/
namespace Go.Proofs.YtanddfkhokcepaaDoor
open Go.RowKit
set_option linter.unusedVariables false
set_option maxRecDepth 100000

theorem infoStr : (Tryd.prog.info? 9).map (fun i => (i.zero, i.size, i.bytes)) = some (some (.string { data := #[] }), 1, 16) := by kernel_rfl
/-- A row of strings of the call's own. -/
def RowT (W : World) (base : Nat) (v : Value) (rows : List (List UInt8)) : Prop := W.ownsRow base 9 1 v rows.length (rows.map fun s => .string (S s))
theorem RowT.nil (W : World) (base : Nat) : RowT W base (.slice none 0 0) [] := World.ownsRow_nil W base _ 1
theorem RowT.slice {W : World} {base : Nat} {v : Value} {rows : List (List UInt8)} (h : RowT W base v rows) : ∃ A c, v = .slice A rows.length c := by
  rcases h.2 with ⟨rfl, h0⟩ | ⟨g, cap, cur, rfl, _⟩
  · exact ⟨none, 0, by rw [h0]⟩
  · exact ⟨_, cap, rfl⟩
theorem RowT.later {W W' : World} {base : Nat} {v : Value} {rows : List (List UInt8)} (h : RowT W base v rows) (hb : Below W.heap.size W W') : RowT W' base v rows :=
  World.ownsRow.kept h (gb_of_below none hb) (by cases v.ownBlock with
    | none => exact .inl rfl
    | some k => exact .inr (by simp))
theorem RowT.alloc {W : World} {base : Nat} {v : Value} {rows : List (List UInt8)} (h : RowT W base v rows) (o : Obj) : RowT (W.alloc o) base v rows := World.ownsRow.alloc h o
/-- append of a new block of one string. -/
theorem rowT_new {w : World} {ops : Array Oper} {rest : List Oper} {o : Oper} {a : Act} {Q : Exit → Act → World → Prop} (hgd : o.guard = none) (s x : Operand)
    (ho : o.op = .call { callee := .builtin .append, args := #[s, x], argTypes := #[102, 102] })
    (B : Nat) (v : Value) (l : List (List UInt8)) (hs : a.eval s = v) (hr : RowT w B v l) (g : Nat) (r : List UInt8) (hx : a.eval x = .slice (some ⟨g, 0, none⟩) 1 1)
    (hg : Whole w g 9 #[.string (S r)]) (hb : l.length ≤ 10000) (hB : B ≤ w.heap.size)
    (h : ∀ v' w', RowT w' B v' (l ++ [r]) → w.grownBy w' v.ownBlock → wpList Tryd.prog ops Q rest (a.put o.dst v') w') : wpList Tryd.prog ops Q (o :: rest) a w := by
  obtain ⟨i0, hi0, hz0, hz1, hz2⟩ := info_parts infoStr
  refine wpList_append_own _ hgd s x _ ho B 9 i0 _ 1 16 Tryd.underlying102 hi0 hz0 hz1 hz2 rfl (by omega) v _ _ hs hr ⟨g, 0, none⟩ 1 1 [.string (S r)] hx rfl ?_ ?_ (by unfold maxLen; omega) (by omega) hB (fun v' w' h2 h3 _ => h v' w' ?_ h3)
  · intro j u hu
    rw [Go.WideShapes.add_plain, Nat.zero_add, hg.cell, ← Array.getElem?_toList]
    exact hu
  · intro u hu
    simp only [List.mem_cons, List.not_mem_nil, or_false] at hu
    rcases hu with rfl
    rfl
  · unfold RowT
    rw [List.length_append, List.map_append]
    simpa using h2
/-- Nothing old has turned, and nothing of the row's own is lost. -/
theorem RowT.below {w W W' : World} {base : Nat} {v : Value} {rows : List (List UInt8)} (h : RowT W base v rows) (hB : base ≤ W.heap.size) (hg : W.grownBy W' v.ownBlock) : Below base W W' :=
  Below.grown (Below.refl _ _) hg hB (fun k hk => (World.ownsRow.lt h k hk).1)
/-- The slice at A reads as these strings. -/
def SlT (w : World) (A : Option Addr) (l : List (List UInt8)) : Prop :=
  ∀ j s, l[j]? = some s → ∃ b off, A = some ⟨b, off, none⟩ ∧ b < w.heap.size ∧ w.cell? ⟨b, off + j, none⟩ = some (.string (S s))
theorem SlT.below {w w' : World} {A : Option Addr} {l : List (List UInt8)} (h : SlT w A l) (hb : Below w.heap.size w w') : SlT w' A l := fun j x hx => by
  obtain ⟨b, off, e, h1, h2⟩ := h j x hx
  exact ⟨b, off, e, Nat.lt_of_lt_of_le h1 hb.size, (hb.cell (p := ⟨b, _, none⟩) h1).trans h2⟩
theorem RowT.slt {W : World} {base : Nat} {A : Option Addr} {n c : Nat} {rows : List (List UInt8)} (h : RowT W base (.slice A n c) rows) : SlT W A rows := fun j x hx => by
  have hj := (List.getElem?_eq_some_iff.1 hx).1
  rcases h.2 with ⟨_, h0⟩ | ⟨g, cap, cur, e, _, hg, _, _, _, ht⟩
  · omega
  · injection e with e1 e2 e3
    refine ⟨g, 0, e1, (Array.getElem?_eq_some_iff.1 hg).1, ?_⟩
    rw [cell_of_row W g (0 + j) cur _ _ hg]
    have h2 : (rows.map fun s => Value.string (S s))[j]? = some (.string (S x)) := by rw [List.getElem?_map, hx]; rfl
    rw [← ht, List.getElem?_take, if_pos (by omega)] at h2
    simpa using h2
/-- The names of those of a kind. -/
def nmsK (kd : Int) (l : List Ex) : List (List UInt8) := (l.filter fun x => decide ((x.kind.toNat : Int) = kd)).map (·.nam)
theorem nmsK_take {kd : Int} {l : List Ex} {k : Nat} {x : Ex} (h : l[k]? = some x) : nmsK kd (l.take (k + 1)) = if (x.kind.toNat : Int) = kd then nmsK kd (l.take k) ++ [x.nam] else nmsK kd (l.take k) := by
  unfold nmsK
  rw [List.take_add_one, h, List.filter_append]
  by_cases e : (x.kind.toNat : Int) = kd <;> simp [e]
theorem nmsK_len (kd : Int) (l : List Ex) (k : Nat) : (nmsK kd (l.take k)).length ≤ k := by
  unfold nmsK
  rw [List.length_map]
  have h1 : ((l.take k).filter fun x => decide ((x.kind.toNat : Int) = kd)).length ≤ (l.take k).length := List.length_filter_le _ _
  rw [List.length_take] at h1
  omega
set_option maxHeartbeats 2000000 in
theorem names_ex {w : World} {A : Option Addr} {c : Nat} {l : List Ex} (kd : Int) (hl : Exs w A l) (hn1 : l.length ≤ 10000) :
    Calls Tryd.prog 55 #[.slice A l.length c, .int .u8 kd] w fun e w' => ∃ v, e = .returned v ∧ RowT w' w.heap.size v (nmsK kd l) ∧ Below w.heap.size w w' := by
  have HL := Lib.hid hl
  obtain ⟨n, hn⟩ : ∃ n, n = l.length := ⟨_, rfl⟩
  have HN := Lib.hid hn
  rw [← hn] at hn1 ⊢
  have HE := Lib.hid (show nmsK kd (l.take n) = nmsK kd l by rw [hn, List.take_length])
  clear hl hn
  go_enter Tryd.func55, Tryd.ntmps55
  go_wp2
  go_loopw [5, 10] (fun v i wr => ∃ k : Nat, k ≤ n ∧ i = .int .i64 k ∧ RowT wr w.heap.size v (nmsK kd (l.take k)) ∧ Below w.heap.size w wr) (fun _ i _ => n - (intOf i).toNat)
  case atStart => exact ⟨0, Nat.zero_le _, rfl, RowT.nil _ _, Below.refl _ _⟩
  case round =>
    obtain ⟨k, hk, rfl, hr, hb⟩ := hrel
    have hz1 := hb.size
    by_cases hlt : k < n
    · obtain ⟨x, hx⟩ : ∃ x, l[k]? = some x := ⟨_, List.getElem?_eq_getElem (by rw [← HN.out]; exact hlt)⟩
      obtain ⟨b, off, rfl, hbl, m0, m1, m2⟩ := (HL.out.below hb).three hx
      have hTk := nmsK_take (kd := kd) hx
      have hlen := nmsK_len kd l k
      have HB := Lib.hid hb
      have HR := Lib.hid hr
      by_cases e : (x.kind.toNat : Int) = kd
      · rw [if_pos e] at hTk
        have HTk := Lib.hid hTk
        have d1 : ((x.kind.toNat : Int) == kd) = true := by simpa using e
        have HX := Lib.hid (Whole.made (wr.alloc (.cells (exC x) 78)) 9 #[.string (S x.nam)])
        have HRA := Lib.hid ((hr.alloc (.cells (exC x) 78)).alloc (.cells #[.string (S x.nam)] 9))
        have HBA := Lib.hid ((hb.alloc hz1 (.cells (exC x) 78)).alloc (by simp; omega) (.cells #[.string (S x.nam)] 9))
        have hsz : ((wr.alloc (.cells (exC x) 78)).alloc (.cells #[.string (S x.nam)] 9)).heap.size = wr.heap.size + 2 := by simp
        simp only [World.size_alloc] at HX
        clear e hTk hr hb
        go_wp2_with (at_builtin; (refine rowT_new rfl _ _ rfl w.heap.size _ (nmsK kd (l.take k)) rfl HRA.out (wr.heap.size + 1) x.nam rfl HX.out (by omega) (by rw [hsz]; omega) ?_; intro v2 w2 hr2 hg2; have HR2 := Lib.hid hr2; have HB2 := Lib.hid (HBA.out.trans (HRA.out.below (w := w) (by rw [hsz]; omega) hg2)); clear hr2 hg2))
        go_roundw
        case rel => exact ⟨k + 1, by omega, by go_num, by rw [HTk.out]; exact HR2.out, HB2.out⟩
        case measure => simp [intOf]; omega
      · rw [if_neg e] at hTk
        have HTk := Lib.hid hTk
        have d1 : ((x.kind.toNat : Int) == kd) = false := by simpa using e
        clear e hTk hr hb
        go_wp2
        go_roundw
        case rel => exact ⟨k + 1, by omega, by go_num, by rw [HTk.out]; exact HR.out.alloc _, HB.out.alloc hz1 _⟩
        case measure => simp [intOf]; omega
    · obtain rfl : k = n := by omega
      have HR := Lib.hid hr
      have HB := Lib.hid hb
      clear hr hb
      go_wp2
      go_ret
      exact ⟨_, rfl, by rw [← HE.out]; exact HR.out, HB.out⟩
set_option maxHeartbeats 2000000 in
theorem rnames_ex {w : World} {A : Option Addr} {c : Nat} {l : List Ex} (kd : Int) (hl : Exs w A l) (hn1 : l.length ≤ 10000) :
    Calls Tryd.prog 56 #[.slice A l.length c, .int .u8 kd] w fun e w' => ∃ v, e = .returned v ∧ RowT w' w.heap.size v (nmsK kd l) ∧ Below w.heap.size w w' := by
  have HL := Lib.hid hl
  obtain ⟨n, hn⟩ : ∃ n, n = l.length := ⟨_, rfl⟩
  have HN := Lib.hid hn
  rw [← hn] at hn1 ⊢
  have HE := Lib.hid (show nmsK kd (l.take n) = nmsK kd l by rw [hn, List.take_length])
  clear hl hn
  go_enter Tryd.func56, Tryd.ntmps56
  go_wp2
  go_loopw [5, 6] (fun v i wr => ∃ k : Nat, k ≤ n ∧ i = .int .i64 k ∧ RowT wr w.heap.size v (nmsK kd (l.take k)) ∧ Below w.heap.size w wr) (fun _ i _ => n - (intOf i).toNat)
  case atStart => exact ⟨0, Nat.zero_le _, rfl, RowT.nil _ _, Below.refl _ _⟩
  case round =>
    obtain ⟨k, hk, rfl, hr, hb⟩ := hrel
    have hz1 := hb.size
    by_cases hlt : k < n
    · obtain ⟨x, hx⟩ : ∃ x, l[k]? = some x := ⟨_, List.getElem?_eq_getElem (by rw [← HN.out]; exact hlt)⟩
      obtain ⟨b, off, rfl, hbl, m0, m1, m2⟩ := (HL.out.below hb).three hx
      have hTk := nmsK_take (kd := kd) hx
      have hlen := nmsK_len kd l k
      have HB := Lib.hid hb
      have HR := Lib.hid hr
      by_cases e : (x.kind.toNat : Int) = kd
      · rw [if_pos e] at hTk
        have HTk := Lib.hid hTk
        have d1 : ((x.kind.toNat : Int) == kd) = true := by simpa using e
        have HX := Lib.hid (Whole.made wr 9 #[.string (S x.nam)])
        have HRA := Lib.hid (hr.alloc (.cells #[.string (S x.nam)] 9))
        have HBA := Lib.hid (hb.alloc hz1 (.cells #[.string (S x.nam)] 9))
        have hsz : (wr.alloc (.cells #[.string (S x.nam)] 9)).heap.size = wr.heap.size + 1 := by simp
        clear e hTk hr hb
        go_wp2_with (at_builtin; (refine rowT_new rfl _ _ rfl w.heap.size _ (nmsK kd (l.take k)) rfl HRA.out wr.heap.size x.nam rfl HX.out (by omega) (by rw [hsz]; omega) ?_; intro v2 w2 hr2 hg2; have HR2 := Lib.hid hr2; have HB2 := Lib.hid (HBA.out.trans (HRA.out.below (w := w) (by rw [hsz]; omega) hg2)); clear hr2 hg2))
        go_roundw
        case rel => exact ⟨k + 1, by omega, by go_num, by rw [HTk.out]; exact HR2.out, HB2.out⟩
        case measure => simp [intOf]; omega
      · rw [if_neg e] at hTk
        have HTk := Lib.hid hTk
        have d1 : ((x.kind.toNat : Int) == kd) = false := by simpa using e
        clear e hTk hr hb
        go_wp2
        go_roundw
        case rel => exact ⟨k + 1, by omega, by go_num, by rw [HTk.out]; exact HR.out, HB.out⟩
        case measure => simp [intOf]; omega
    · obtain rfl : k = n := by omega
      have HR := Lib.hid hr
      have HB := Lib.hid hb
      clear hr hb
      go_wp2
      go_ret
      exact ⟨_, rfl, by rw [← HE.out]; exact HR.out, HB.out⟩
set_option maxHeartbeats 2000000 in
/-- SameTexts of two slices that read alike. -/
theorem same_texts {w : World} {A A2 : Option Addr} {c c2 n : Nat} {l : List (List UInt8)} (hl : SlT w A l) (hl2 : SlT w A2 l) (hn : n = l.length) (hn1 : n ≤ 10000) :
    Calls Tryd.prog 54 #[.slice A n c, .slice A2 n c2] w fun e w' => e = .returned (.bool true) ∧ Below w.heap.size w w' := by
  have HL := Lib.hid hl
  have HL2 := Lib.hid hl2
  have HN := Lib.hid hn
  clear hl hl2 hn
  go_enter Tryd.func54, Tryd.ntmps54
  go_wp2
  go_loopw [5] (fun i wr => ∃ k : Nat, k ≤ n ∧ i = .int .i64 k ∧ Below w.heap.size w wr) (fun i _ => n - (intOf i).toNat)
  case atStart => exact ⟨0, Nat.zero_le _, rfl, Below.refl _ _⟩
  case round =>
    obtain ⟨k, hk, rfl, hb⟩ := hrel
    by_cases hlt : k < n
    · obtain ⟨s, hs⟩ : ∃ s, l[k]? = some s := ⟨_, List.getElem?_eq_getElem (by rw [← HN.out]; exact hlt)⟩
      obtain ⟨b, off, rfl, hbl, m0⟩ := HL.out.below hb k s hs
      obtain ⟨b2, off2, rfl, hbl2, p0⟩ := HL2.out.below hb k s hs
      have HB := Lib.hid hb
      clear hb hs
      go_wp2
      go_quiet (fail)
      go_wp2
      go_roundw
      case rel => exact ⟨k + 1, by omega, by go_num, below_drewN HB.out _⟩
      case measure => simp [intOf]; omega
    · obtain rfl : k = n := by omega
      have HB := Lib.hid hb
      clear hb
      go_wp2
      go_ret
      exact ⟨rfl, HB.out⟩
end Go.Proofs.YtanddfkhokcepaaDoor
