/- imports.Get of an import's bytes. -/
import Derived.Test.YtdogjinjbnlgdaaDoorQz12
import Derived.Test.YtdogjinjbnlgdaaDoorQz11
import Derived.Test.YtdogjinjbnlgdaaDoorQz03
import Derived.RegionTactic
namespace Go.Proofs.YtdogjinjbnlgdaaDoor
open Go.RowKit Go.Lib
set_option linter.unusedVariables false
set_option maxRecDepth 100000

theorem nameR_at {l s r : List UInt8} {k : Nat} (h : l.drop k = nmL s ++ r) (hs : s.length ≤ 200) (hv : validD s = true) : nameR l k = .ok s (k + (nmL s).length) := by
  unfold nmL at h ⊢
  rw [List.append_assoc] at h
  have m1 := lebL_len (s.length : Int) (by omega)
  have hd := drop_past h
  have e1 := congrArg List.length h
  have e2 := congrArg List.length hd
  simp only [List.length_drop, List.length_append] at e1 e2
  unfold nameR atMostR
  rw [indexR_at h (by omega) (by omega), Res.bind_ok, if_pos (by omega), Res.bind_ok, Int.toNat_natCast, hd, List.take_left, if_pos (by omega), if_pos hv, List.length_append, Nat.add_assoc]
theorem checkZ_zero {s : List UInt8} (h : checkZ s = 0) : s.length ≤ 200 ∧ validD s = true := by
  unfold checkZ at h
  split at h
  · omega
  · split at h
    · exact ⟨by omega, by assumption⟩
    · omega
theorem rZ_zero {x : Im} (h : rZ x = 0) : checkZ x.mod = 0 ∧ checkZ x.nam = 0 ∧ x.kind.toNat ≤ 3 ∧ x = ofK x ∧ (x.bd = false → x.mx.toNat = 0) ∧ (x.kind.toNat = 3 → valueZ x.gt.toNat = 0) := by
  unfold rZ at h
  by_cases c1 : checkZ x.mod = 0
  · rw [if_neg (by simpa using c1)] at h
    by_cases c2 : checkZ x.nam = 0
    · rw [if_neg (by simpa using c2)] at h
      by_cases c3 : 3 < x.kind.toNat
      · rw [if_pos c3] at h; omega
      · rw [if_neg c3] at h
        by_cases c4 : x ≠ ofK x ∨ (x.bd = false ∧ x.mx.toNat ≠ 0)
        · rw [if_pos c4] at h; omega
        · rw [if_neg c4] at h
          refine ⟨c1, c2, by omega, ?_, fun hb => ?_, fun hk => ?_⟩
          · exact Decidable.byContradiction fun q => c4 (.inl q)
          · exact Decidable.byContradiction fun q => c4 (.inr ⟨hb, q⟩)
          · rw [if_pos hk] at h; exact h
    · rw [if_pos c2] at h; exact absurd h c2
  · rw [if_pos c1] at h; exact absurd h c1
/-- Get, of an import's bytes. -/
theorem get_im {w : World} {p : Nat} {l r : List UInt8} {k : Nat} {x : Im} (h : Sc w p l k) (hT : TbN p w) (hd : l.drop k = iputL x ++ r) (hz : rZ x = 0) :
    Calls Tryd.prog 13 #[.pointer (some ⟨p, 0, none⟩)] w (Gots p l (k + (iputL x).length) x w) := by
  obtain ⟨c1, c2, c3, ho, hb, hg⟩ := rZ_zero hz
  obtain ⟨s1, s2⟩ := checkZ_zero c1
  obtain ⟨t1, t2⟩ := checkZ_zero c2
  have hi : iputL x = nmL x.mod ++ (nmL x.nam ++ (x.kind :: desL x)) := by unfold iputL; simp
  have hd1 : l.drop k = nmL x.mod ++ (nmL x.nam ++ (x.kind :: (desL x ++ r))) := by rw [hd, hi]; simp
  have n1 := nameR_at hd1 s1 s2
  have hd2 := drop_past hd1
  have n2 := nameR_at hd2 t1 t2
  have hd3 := drop_past hd2
  have n3 := byteR_at hd3
  have hd4 : l.drop (k + (nmL x.mod).length + (nmL x.nam).length + 1) = desL x ++ r := by
    have := drop_past (a := [x.kind]) (r := desL x ++ r) (by simpa using hd3)
    simpa using this
  have hlen : k + (iputL x).length = k + (nmL x.mod).length + (nmL x.nam).length + 1 + (desL x).length := by
    rw [hi]; simp only [List.length_append, List.length_cons]; omega
  rw [hlen]
  have u1 := u32_le x.mn
  have u2 := u32_le x.mx
  have u3 := u32_le x.typ
  have hbz : x.bd = false → (x.mx.toNat : Int) = 0 := fun q => by have := hb q; omega
  by_cases k0 : x.kind.toNat = 0
  · have e : desL x = lebL x.typ.toNat := by unfold desL; rw [if_pos k0]
    rw [e] at hd4 ⊢
    exact get_0 h hT n1 n2 n3 k0 (indexR_at hd4 (by omega) u3) (by conv => lhs; rw [ho]; unfold ofK; rw [if_pos k0])
  by_cases k1 : x.kind.toNat = 1
  · have e : desL x = [112] ++ encLim x.mn.toNat x.mx.toNat x.bd := by unfold desL; rw [if_neg k0, if_pos k1]
    rw [e] at hd4 ⊢
    rw [List.length_append, List.length_singleton]
    have hd4' : l.drop (k + (nmL x.mod).length + (nmL x.nam).length + 1) = 112 :: (encLim x.mn.toNat x.mx.toNat x.bd ++ r) := by rw [hd4]; simp
    have ht : tagR l (k + (nmL x.mod).length + (nmL x.nam).length + 1) 112 = .ok () (k + (nmL x.mod).length + (nmL x.nam).length + 1 + 1) := by
      unfold tagR
      rw [byteR_at hd4', Res.bind_ok, if_pos (by rfl)]
    have hd5 : l.drop (k + (nmL x.mod).length + (nmL x.nam).length + 1 + 1) = encLim x.mn.toNat x.mx.toNat x.bd ++ r := by
      have := drop_past (a := [112]) (r := encLim x.mn.toNat x.mx.toNat x.bd ++ r) (by simpa using hd4')
      simpa using this
    have hl := limR_at hd5 (by omega) u1 (by omega) u2 hbz
    rw [← Nat.add_assoc]
    exact get_1 h hT n1 n2 n3 k1 ht hl (by conv => lhs; rw [ho]; unfold ofK; rw [if_neg k0, if_pos (.inl k1)])
  by_cases k2 : x.kind.toNat = 2
  · have e : desL x = encLim x.mn.toNat x.mx.toNat x.bd := by unfold desL; rw [if_neg k0, if_neg k1, if_pos k2]
    rw [e] at hd4 ⊢
    exact get_2 h hT n1 n2 n3 k2 (limR_at hd4 (by omega) u1 (by omega) u2 hbz) (by conv => lhs; rw [ho]; unfold ofK; rw [if_neg k0, if_pos (.inr k2)])
  have k3 : x.kind.toNat = 3 := by omega
  have e : desL x = encG x.gt.toNat x.gm := by unfold desL; rw [if_neg k0, if_neg k1, if_neg k2]
  rw [e] at hd4 ⊢
  exact get_3 h hT n1 n2 n3 k3 (globR_at hd4 (hg k3)) (by conv => lhs; rw [ho]; unfold ofK; rw [if_neg k0, if_neg (by omega), if_pos k3])
end Go.Proofs.YtdogjinjbnlgdaaDoor

/- imports.PutAll. -/
namespace Go.Proofs.YtdogjinjbnlgdaaDoor
open Go.RowKit
set_option linter.unusedVariables false
set_option maxRecDepth 100000

/-- The first error. -/
def errL : List Im → Int
  | [] => 0
  | x :: r => if rZ x ≠ 0 then rZ x else errL r
theorem errL_app : ∀ a b : List Im, errL (a ++ b) = if errL a ≠ 0 then errL a else errL b
  | [], b => by simp [errL]
  | x :: a, b => by
    simp only [List.cons_append, errL]
    by_cases h : rZ x = 0
    · simp only [h, ne_eq, not_true_eq_false, if_false, errL_app a b]
    · simp [h]
theorem errL_snoc {l : List Im} {k : Nat} {x : Im} (h : l[k]? = some x) : errL (l.take (k + 1)) = if errL (l.take k) ≠ 0 then errL (l.take k) else rZ x := by
  rw [List.take_add_one, h]
  show errL (l.take k ++ [x]) = _
  rw [errL_app]
  by_cases e : rZ x = 0 <;> simp [errL, e]
theorem ret_pair {v : Value} {a b : Int} (h : a = b) : Ending.returned (.tuple #[v, .int .i64 a]) = .returned (.tuple #[v, .int .i64 b]) := by rw [h]
theorem errL_bad {l : List Im} {k : Nat} (h : errL (l.take k) ≠ 0) : errL l = errL (l.take k) := by
  conv => lhs; rw [← List.take_append_drop k l]
  rw [errL_app, if_pos h]
theorem errL_mem : ∀ {l : List Im}, errL l = 0 → ∀ x ∈ l, rZ x = 0
  | [], _, x, hx => by cases hx
  | y :: l, h, x, hx => by
    simp only [errL] at h
    by_cases e : rZ y = 0
    · simp only [e, ne_eq, not_true_eq_false, if_false] at h
      rcases List.mem_cons.1 hx with rfl | hx
      · exact e
      · exact errL_mem h x hx
    · simp [e] at h
/-- Many imports' bytes. -/
noncomputable def iputsL (l : List Im) : List UInt8 := l.flatMap iputL
theorem iputsL_snoc {l : List Im} {k : Nat} {x : Im} (h : l[k]? = some x) : iputsL (l.take (k + 1)) = iputsL (l.take k) ++ iputL x := by
  unfold iputsL
  rw [List.take_add_one, h, List.flatMap_append]
  simp
/-- The names are short. -/
def ShortI (l : List Im) : Prop := ∀ x ∈ l, x.mod.length ≤ 400 ∧ x.nam.length ≤ 400
theorem iputsL_len : ∀ {l : List Im}, ShortI l → (iputsL l).length ≤ l.length * 843
  | [], _ => by simp [iputsL]
  | x :: r, h => by
    have h1 := iputsL_len (l := r) (fun y hy => h y (List.mem_cons_of_mem _ hy))
    have h2 := h x (by simp)
    have h3 := (iputL_len (n := 400) h2.1 h2.2 (by omega)).2
    unfold iputsL at h1 ⊢
    rw [List.flatMap_cons, List.length_append, List.length_cons]
    omega
noncomputable def allL (l : List Im) : List UInt8 := lebL l.length ++ iputsL l
/-- What PutAll hands back. -/
def PuttedAll (l : List Im) (w : World) (e : Ending) (w' : World) : Prop := ∃ v, e = .returned (.tuple #[v, .int .i64 (errL l)]) ∧ Row w' w.heap.size v (if errL l = 0 then allL l else []) ∧ Below w.heap.size w w'
set_option maxHeartbeats 4000000 in
theorem putall_im {w : World} {A : Option Addr} {c : Nat} {l : List Im} (hl : Ims w A l) (hT : Tabs w) (hs : ShortI l) (h20 : l.length ≤ 1000) :
    Calls Tryd.prog 18 #[.slice A l.length c] w (PuttedAll l w) := by
  have HL := Lib.hid hl
  have HTb := Lib.hid hT
  have HSh := Lib.hid hs
  have hall := iputsL_len hs
  have hlb := lebL_len (l.length : Int) (by omega)
  have HZ := Lib.hid (fun W => size_im l.length W (by omega))
  obtain ⟨n, hn⟩ : ∃ n, n = l.length := ⟨_, rfl⟩
  obtain ⟨hd, hhd⟩ : ∃ hd, hd = lebL (l.length : Int) := ⟨_, rfl⟩
  rw [← hhd] at HZ hlb
  have HN := Lib.hid hn
  have HE := Lib.hid (show l.take n = l by rw [hn, List.take_length])
  have HAL := Lib.hid (show allL l = hd ++ iputsL l by rw [hhd]; rfl)
  have HPL := Lib.hid (fun k => show (iputsL (l.take k)).length ≤ (iputsL l).length by
    have e : iputsL l = iputsL (l.take k) ++ iputsL (l.drop k) := by unfold iputsL; rw [← List.flatMap_append, List.take_append_drop]
    rw [e, List.length_append]; omega)
  rw [← hn] at hall h20 HZ ⊢
  have d10 : decide ((10000 : Int) < (n : Int)) = false := decide_eq_false (by omega)
  clear hl hT hs hn hhd
  go_enter Tryd.func18, Tryd.ntmps18
  go_wp2_with (go_at_call 46; go_must ((with_reducible refine (HZ.out _).mono ?_); intro e w1 h; obtain ⟨v, rfl, hr, hb⟩ := h; have HR := Lib.hid hr; have HB := Lib.hid hb; clear hr hb))
  go_loopw [4, 17] (fun v i wr => ∃ k : Nat, k ≤ n ∧ i = .int .i64 k ∧ errL (l.take k) = 0 ∧ Row wr w.heap.size v (hd ++ iputsL (l.take k)) ∧ Below w.heap.size w wr) (fun _ i _ => n - (intOf i).toNat)
  case atStart => exact ⟨0, Nat.zero_le _, rfl, rfl, by simpa [iputsL] using HR.out, HB.out⟩
  case round =>
    obtain ⟨k, hk, rfl, he, hr, hb⟩ := hrel
    have hz1 := hb.size
    by_cases hlt : k < n
    · obtain ⟨x, hx⟩ : ∃ x, l[k]? = some x := ⟨_, List.getElem?_eq_getElem (by rw [← HN.out]; exact hlt)⟩
      obtain ⟨b, off, rfl, hbl, m0, m1, m2, m3, m4, m5, m6, m7, m8⟩ := (HL.out.below hb).nine hx
      have hxs := HSh.out x (List.mem_of_getElem? hx)
      have hTk := errL_snoc hx
      have hPk := iputsL_snoc hx
      have hpl := HPL.out (k + 1)
      have HB2 := Lib.hid (hb.alloc hz1 (.cells (imC x) 28))
      have HR2 := Lib.hid (hr.alloc (.cells (imC x) 28))
      have HP := Lib.hid (put_im x (wr.alloc (.cells (imC x) 28)) (HTb.out.below HB2.out) (by omega) (by omega))
      have hzb : wr.heap.size ≤ (wr.alloc (.cells (imC x) 28)).heap.size := (below_box wr _).size
      rw [he] at hTk
      simp only [ne_eq, not_true_eq_false, if_false] at hTk
      unfold Putted at HP
      have HTk := Lib.hid hTk
      have HPk := Lib.hid hPk
      by_cases z0 : rZ x = 0
      · rw [if_pos z0, z0] at HP
        have hil := iputL_len (n := 400) hxs.1 hxs.2 (by omega)
        have hsz : (hd ++ iputsL (l.take k)).length + (iputL x).length ≤ 1000000 := by
          rw [hPk, List.length_append] at hpl
          rw [List.length_append]
          omega
        have HIL := Lib.hid hil
        have HSZ := Lib.hid hsz
        obtain ⟨y, hy⟩ : ∃ y, y = iputL x := ⟨_, rfl⟩
        rw [← hy] at HP HPk HIL HSZ
        have HZ0 := Lib.hid z0
        clear hTk hPk hpl he hr hb z0 hil hsz hy hxs
        go_wp2_with (first
          | (go_at_call 8; go_must ((with_reducible refine HP.out.mono ?_); intro e w3 h; obtain ⟨v3, rfl, hr3, hb3⟩ := h; obtain ⟨A3, c3, rfl, hp3⟩ := hr3.pc; have HP3 := Lib.hid hp3; have HR3 := Lib.hid (HR2.out.later hb3); have HB3 := Lib.hid (HB2.out.trans (hb3.mono HB2.out.size)); have hz3 := HB3.out.size; clear hr3 hb3 hp3))
          | (at_builtin; (refine row_any rfl _ _ rfl w.heap.size _ (hd ++ iputsL (l.take k)) rfl HR3.out A3 y.length c3 w3.heap.size y rfl rfl HP3.out.lies HP3.out.nil HSZ.out hz3 ?_; intro v4 w4 hr4 hb4; have HR4 := Lib.hid hr4; have HB4 := Lib.hid hb4; clear hr4 hb4)))
        go_roundw
        case rel => exact ⟨k + 1, by omega, by go_num, by rw [HTk.out]; exact HZ0.out, by rw [HPk.out, ← List.append_assoc]; exact HR4.out, HB3.out.trans HB4.out⟩
        case measure => simp [intOf]; omega
      · rw [if_neg z0] at HP
        have hbad := errL_bad (l := l) (k := k + 1) (by rw [hTk]; exact z0)
        rw [hTk] at hbad
        have HBAD := Lib.hid hbad
        have dz : (rZ x != 0) = true := zb_of (by simpa using z0)
        have HZ0 := Lib.hid (show ¬ errL l = 0 by rw [hbad]; exact z0)
        clear hTk hPk hpl he hr hb z0 hbad hxs
        generalize rZ x = z at *
        go_wp2_with (go_at_call 8; go_must ((with_reducible refine HP.out.mono ?_); intro e w3 h; obtain ⟨v3, rfl, hr3, hb3⟩ := h; have HB3 := Lib.hid (HB2.out.trans (hb3.mono HB2.out.size)); clear hr3 hb3))
        go_ret2
        exact ⟨_, ret_pair HBAD.out.symm, by rw [if_neg HZ0.out]; exact Row.nil _ _, HB3.out⟩
    · obtain rfl : k = n := by omega
      rw [HE.out] at he
      rw [HE.out] at hr
      have HE2 := Lib.hid he
      have HR2 := Lib.hid hr
      have HB2 := Lib.hid hb
      clear hr hb he
      go_wp2
      go_ret2
      exact ⟨_, ret_pair HE2.out.symm, by rw [if_pos HE2.out, HAL.out]; exact HR2.out, HB2.out⟩
end Go.Proofs.YtdogjinjbnlgdaaDoor

/- abort.Value of a function that ends well, whatever it hands back: api.Import. (By gen/genIVal.py.) -/
namespace Go.Proofs.YtdogjinjbnlgdaaDoor
open Go.RowKit
set_option linter.unusedVariables false
set_option maxRecDepth 100000

theorem cfVJ (cap : Array Value) (w : World) : (callFunc 35 cap).run Tryd.prog w = .ok (.enter 35 cap) w := by kernel_rfl
section
variable {T : Im → World → Prop}
/-- Value's own closure: what the step hands back lies in its cell. -/
theorem valClosJ {g : FuncId} {cap : Array Value} {b1 b4 q : Nat} {w : World} {z : Array Value} (hz : z.size = 9) (hcf : ∀ w : World, (callFunc g cap).run Tryd.prog w = .ok (.enter g cap) w)
    (h1 : Whole w b1 43 #[.func (.func g) #[] cap]) (h4 : Whole w b4 28 #[.string { data := #[] }, .string { data := #[] }, .int .u8 0, .int .u32 0, .int .u32 0, .int .u32 0, .bool false, .int .u8 0, .bool false]) (hb : q < b4) (hT : ∀ x W W', T x W → W.grownBy W' (some b4) → T x W')
    (h : Calls Tryd.prog g cap w fun e w' => ∃ x, e = .returned (imV x) ∧ T x w' ∧ w.grownBy w' (some q)) :
    Calls Tryd.prog 35 #[.pointer (some ⟨b1, 0, none⟩), .pointer (some ⟨b4, 0, none⟩)] w fun e w' =>
      e = .returned (.tuple #[]) ∧ ∃ x, T x w' ∧ Whole w' b4 28 #[.string (S x.mod), .string (S x.nam), .int .u8 x.kind.toNat, .int .u32 x.typ.toNat, .int .u32 x.mn.toNat, .int .u32 x.mx.toNat, .bool x.bd, .int .u8 x.gt.toNat, .bool x.gm] ∧ ∃ w1, w.grownBy w1 (some q) ∧ w1.grownBy w' (some b4) := by
  have hnil : ∀ w : World, (binOp BinOp.neq 43 (.func (.func g) #[] cap) .nilFunc).run Tryd.prog w = .ok (.bool true) w := fun _ => by kernel_rfl
  have c1 := h1.cell 0
  simp only [List.getElem?_toArray, List.getElem?_cons_zero] at c1
  have HH := Lib.hid h
  have H4 := Lib.hid h4
  have HT := Lib.hid hT
  clear h h1 h4 hT
  go_enter Tryd.func35, Tryd.ntmps35
  go_wp2_with fail
  refine HH.out.mono ?_
  rintro e w1 ⟨x, rfl, hs, hg⟩
  have HW := H4.out.grown hg (by simp only [ne_eq, Option.some.injEq]; omega)
  have k0 := HW.cell 0
  have k1 := HW.cell 1
  have k2 := HW.cell 2
  have k3 := HW.cell 3
  have k4 := HW.cell 4
  have k5 := HW.cell 5
  have k6 := HW.cell 6
  have k7 := HW.cell 7
  have k8 := HW.cell 8
  have f0 := HW.frozen 0
  have f1 := HW.frozen 1
  have f2 := HW.frozen 2
  have f3 := HW.frozen 3
  have f4 := HW.frozen 4
  have f5 := HW.frozen 5
  have f6 := HW.frozen 6
  have f7 := HW.frozen 7
  have f8 := HW.frozen 8
  simp only [List.getElem?_toArray, List.getElem?_cons_zero, List.getElem?_cons_succ] at k0 k1 k2 k3 k4 k5 k6 k7 k8
  obtain ⟨p1, p2⟩ := put9 (u0 := .string (S x.mod)) (u1 := .string (S x.nam)) (u2 := .int .u8 x.kind.toNat) (u3 := .int .u32 x.typ.toNat) (u4 := .int .u32 x.mn.toNat) (u5 := .int .u32 x.mx.toNat) (u6 := .bool x.bd) (u7 := .int .u8 x.gt.toNat) (u8 := .bool x.gm) HW
  have F : Hid (T x (((((((((w1.setCell ⟨b4, 0, none⟩ (.string (S x.mod))).setCell ⟨b4, 1, none⟩ (.string (S x.nam))).setCell ⟨b4, 2, none⟩ (.int .u8 x.kind.toNat)).setCell ⟨b4, 3, none⟩ (.int .u32 x.typ.toNat)).setCell ⟨b4, 4, none⟩ (.int .u32 x.mn.toNat)).setCell ⟨b4, 5, none⟩ (.int .u32 x.mx.toNat)).setCell ⟨b4, 6, none⟩ (.bool x.bd)).setCell ⟨b4, 7, none⟩ (.int .u8 x.gt.toNat)).setCell ⟨b4, 8, none⟩ (.bool x.gm))) := HT.out _ _ _ hs p2
  have P1 := Lib.hid p1
  have P2 := Lib.hid p2
  have HG := Lib.hid hg
  clear p1 p2 hs hg HW hcf
  go_wp2_with fail
  go_end0
  exact ⟨rfl, x, F.out, P1.out, w1, HG.out, P2.out⟩
/-- What Value's closure leaves behind, seen from Value's beginning. -/
structure VSJ (T : Im → World → Prop) (w : World) (q : Nat) (x : Im) (w1 : World) : Prop where
  kept : T x w1
  grown : w.grownBy w1 (some q)
  val : Whole w1 (w.heap.size + 3) 28 #[.string (S x.mod), .string (S x.nam), .int .u8 x.kind.toNat, .int .u32 x.typ.toNat, .int .u32 x.mn.toNat, .int .u32 x.mx.toNat, .bool x.bd, .int .u8 x.gt.toNat, .bool x.gm]
  r1 : Whole w1 (w.heap.size + 1) 28 #[.string { data := #[] }, .string { data := #[] }, .int .u8 0, .int .u32 0, .int .u32 0, .int .u32 0, .bool false, .int .u8 0, .bool false]
  r2 : Whole w1 (w.heap.size + 2) 39 #[.int .i64 0, .int .i64 0]
/-- The world in which Value calls Out. -/
def vWorldJ (g : FuncId) (cap : Array Value) (w : World) : World :=
  (((w.alloc (.cells #[.func (.func g) #[] cap] 43)).alloc (.cells #[.string { data := #[] }, .string { data := #[] }, .int .u8 0, .int .u32 0, .int .u32 0, .int .u32 0, .bool false, .int .u8 0, .bool false] 28)).alloc (.cells #[.int .i64 0, .int .i64 0] 39)).alloc (.cells #[.string { data := #[] }, .string { data := #[] }, .int .u8 0, .int .u32 0, .int .u32 0, .int .u32 0, .bool false, .int .u8 0, .bool false] 28)
theorem vWorld_factsJ (g : FuncId) (cap : Array Value) (w : World) : (vWorldJ g cap w).heap.size = w.heap.size + 4 ∧ Whole (vWorldJ g cap w) w.heap.size 43 #[.func (.func g) #[] cap] ∧
    Whole (vWorldJ g cap w) (w.heap.size + 1) 28 #[.string { data := #[] }, .string { data := #[] }, .int .u8 0, .int .u32 0, .int .u32 0, .int .u32 0, .bool false, .int .u8 0, .bool false] ∧ Whole (vWorldJ g cap w) (w.heap.size + 2) 39 #[.int .i64 0, .int .i64 0] ∧
    Whole (vWorldJ g cap w) (w.heap.size + 3) 28 #[.string { data := #[] }, .string { data := #[] }, .int .u8 0, .int .u32 0, .int .u32 0, .int .u32 0, .bool false, .int .u8 0, .bool false] ∧ Below w.heap.size w (vWorldJ g cap w) := by
  have b1 := Whole.made w 43 #[.func (.func g) #[] cap]
  have b2 := Whole.made (w.alloc (.cells #[.func (.func g) #[] cap] 43)) 28 #[.string { data := #[] }, .string { data := #[] }, .int .u8 0, .int .u32 0, .int .u32 0, .int .u32 0, .bool false, .int .u8 0, .bool false]
  have b3 := Whole.made ((w.alloc (.cells #[.func (.func g) #[] cap] 43)).alloc (.cells #[.string { data := #[] }, .string { data := #[] }, .int .u8 0, .int .u32 0, .int .u32 0, .int .u32 0, .bool false, .int .u8 0, .bool false] 28)) 39 #[.int .i64 0, .int .i64 0]
  have b4 := Whole.made (((w.alloc (.cells #[.func (.func g) #[] cap] 43)).alloc (.cells #[.string { data := #[] }, .string { data := #[] }, .int .u8 0, .int .u32 0, .int .u32 0, .int .u32 0, .bool false, .int .u8 0, .bool false] 28)).alloc (.cells #[.int .i64 0, .int .i64 0] 39)) 28 #[.string { data := #[] }, .string { data := #[] }, .int .u8 0, .int .u32 0, .int .u32 0, .int .u32 0, .bool false, .int .u8 0, .bool false]
  simp only [World.size_alloc] at b2 b3 b4
  exact ⟨by simp [vWorldJ], ((b1.alloc _).alloc _).alloc _, (b2.alloc _).alloc _, b3.alloc _, b4,
    ((((Below.refl _ _).alloc (Nat.le_refl _) _).alloc (by simp) _).alloc (by simp; omega) _).alloc (by simp; omega) _⟩
theorem value_outJ {g : FuncId} {cap : Array Value} {q : Nat} {w : World} (hcf : ∀ w : World, (callFunc g cap).run Tryd.prog w = .ok (.enter g cap) w) (hq : q < w.heap.size)
    (hT : ∀ x W W' b, w.heap.size ≤ b → b < w.heap.size + 5 → T x W → W.grownBy W' (some b) → T x W')
    (h : ∀ W, Below w.heap.size w W → w.heap.size + 5 ≤ W.heap.size → Calls Tryd.prog g cap W fun e w' => ∃ x, e = .returned (imV x) ∧ T x w' ∧ W.grownBy w' (some q)) :
    Calls Tryd.prog 34 #[.func (.func 35) #[] #[.pointer (some ⟨w.heap.size, 0, none⟩), .pointer (some ⟨w.heap.size + 3, 0, none⟩)]] (vWorldJ g cap w) fun e w' => e = .returned (.agg #[.int .i64 0, .int .i64 0]) ∧ ∃ x, VSJ T w q x w' := by
  obtain ⟨hz, b1, b2, b3, b4, hbe⟩ := vWorld_factsJ g cap w
  have b5 := Whole.made (vWorldJ g cap w) 39 #[.int .i64 0, .int .i64 0]
  have hbe2 : Below w.heap.size w ((vWorldJ g cap w).alloc (.cells #[.int .i64 0, .int .i64 0] 39)) := hbe.alloc (by omega) _
  have hc := valClosJ (T := T) (z := #[.string { data := #[] }, .string { data := #[] }, .int .u8 0, .int .u32 0, .int .u32 0, .int .u32 0, .bool false, .int .u8 0, .bool false]) rfl hcf (b1.alloc (.cells #[.int .i64 0, .int .i64 0] 39)) (b4.alloc _) (by omega : q < w.heap.size + 3) (fun x W W' => hT x W W' _ (by omega) (by omega)) (h _ hbe2 (by rw [size_box]; omega))
  refine (out_any _ _ 0 0 (vWorldJ g cap w) (fun w1 => (∃ x, VSJ T w q x w1) ∧ Whole w1 (vWorldJ g cap w).heap.size 39 #[.int .i64 0, .int .i64 0]) (cfVJ _) (hc.mono ?_) (fun _ h => h.2)).mono ?_
  · rintro e w' ⟨rfl, x, hs, hv, w1, hg1, hg2⟩
    have hz2 : w.heap.size + 5 ≤ w1.heap.size := by have := hg1.size; simp only [World.size_alloc] at this; omega
    refine ⟨.inl ⟨rfl, rfl, rfl⟩, ⟨x, hs, ?_, hv, ?_, ?_⟩, ?_⟩
    · exact gb_before (gb_trans (gb_of_below (some q) hbe2) hg1) hg2 (fun g e => .inr (by injection e with e; omega))
    · exact ((b2.alloc _).grown hg1 (by simp only [ne_eq, Option.some.injEq]; omega)).grown hg2 (by simp only [ne_eq, Option.some.injEq]; omega)
    · exact ((b3.alloc _).grown hg1 (by simp only [ne_eq, Option.some.injEq]; omega)).grown hg2 (by simp only [ne_eq, Option.some.injEq]; omega)
    · exact (b5.grown hg1 (by simp only [ne_eq, Option.some.injEq]; omega)).grown hg2 (by simp only [ne_eq, Option.some.injEq]; omega)
  · rintro e w' ⟨rfl, w1, ⟨⟨x, hs⟩, _⟩, hg⟩
    rw [hz] at hg
    exact ⟨rfl, x, hT x _ _ _ (by omega) (by omega) hs.kept hg, gb_before hs.grown hg (fun g e => .inr (by injection e with e; omega)), hs.val.grown hg (by simp only [ne_eq, Option.some.injEq]; omega), hs.r1.grown hg (by simp only [ne_eq, Option.some.injEq]; omega), hs.r2.grown hg (by simp only [ne_eq, Option.some.injEq]; omega)⟩

set_option maxHeartbeats 800000 in
/-- Value of a function that ends well. -/
theorem valueJ_ok {g : FuncId} {cap : Array Value} {q : Nat} {w : World} (hcf : ∀ w : World, (callFunc g cap).run Tryd.prog w = .ok (.enter g cap) w) (hq : q < w.heap.size)
    (hT : ∀ x W W' b, w.heap.size ≤ b → b < w.heap.size + 5 → T x W → W.grownBy W' (some b) → T x W')
    (h : ∀ W, Below w.heap.size w W → w.heap.size + 5 ≤ W.heap.size → Calls Tryd.prog g cap W fun e w' => ∃ x, e = .returned (imV x) ∧ T x w' ∧ W.grownBy w' (some q)) :
    Calls Tryd.prog 11 #[.func (.func g) #[] cap] w fun e w' => ∃ x, e = .returned (.tuple #[imV x, .agg #[.int .i64 0, .int .i64 0]]) ∧ T x w' ∧ w.grownBy w' (some q) := by
  have hv := value_outJ hcf hq hT h
  unfold vWorldJ at hv
  have HV := Lib.hid hv
  have HT := Lib.hid hT
  have hmf : ∀ (fn : Fn) (first cap : Array Value) (w : World), (Instr.makeFunc fn first cap).run Tryd.prog w = .ok (.func fn first cap) w := fun _ _ _ _ => rfl
  clear h hv hcf hT
  go_enter Tryd.func11, Tryd.ntmps11
  go_wp2_with (go_at_call 34; go_must (refine HV.out.mono ?_; rintro e w2 ⟨rfl, x, hl⟩; have k0 := fun o => (hl.val.alloc o).cell 0; have f0 := fun o => (hl.r1.alloc o).frozen 0; have m0 := fun o => (hl.r1.alloc o).cell 0; have k1 := fun o => (hl.val.alloc o).cell 1; have f1 := fun o => (hl.r1.alloc o).frozen 1; have m1 := fun o => (hl.r1.alloc o).cell 1; have k2 := fun o => (hl.val.alloc o).cell 2; have f2 := fun o => (hl.r1.alloc o).frozen 2; have m2 := fun o => (hl.r1.alloc o).cell 2; have k3 := fun o => (hl.val.alloc o).cell 3; have f3 := fun o => (hl.r1.alloc o).frozen 3; have m3 := fun o => (hl.r1.alloc o).cell 3; have k4 := fun o => (hl.val.alloc o).cell 4; have f4 := fun o => (hl.r1.alloc o).frozen 4; have m4 := fun o => (hl.r1.alloc o).cell 4; have k5 := fun o => (hl.val.alloc o).cell 5; have f5 := fun o => (hl.r1.alloc o).frozen 5; have m5 := fun o => (hl.r1.alloc o).cell 5; have k6 := fun o => (hl.val.alloc o).cell 6; have f6 := fun o => (hl.r1.alloc o).frozen 6; have m6 := fun o => (hl.r1.alloc o).cell 6; have k7 := fun o => (hl.val.alloc o).cell 7; have f7 := fun o => (hl.r1.alloc o).frozen 7; have m7 := fun o => (hl.r1.alloc o).cell 7; have k8 := fun o => (hl.val.alloc o).cell 8; have f8 := fun o => (hl.r1.alloc o).frozen 8; have m8 := fun o => (hl.r1.alloc o).cell 8; have f88 := fun o => (hl.r2.alloc o).frozen 0; have f99 := fun o => (hl.r2.alloc o).frozen 1; have m88 := fun o => (hl.r2.alloc o).cell 0; have m99 := fun o => (hl.r2.alloc o).cell 1; simp only [List.getElem?_toArray, List.getElem?_cons_zero, List.getElem?_cons_succ] at k0 k1 k2 k3 k4 k5 k6 k7 k8 m0 m1 m2 m3 m4 m5 m6 m7 m8 m88 m99; have hz := hl.grown.size; have HL := Lib.hid hl; clear hl))
  have hb : w.heap.size + 1 + 1 = w.heap.size + 2 := by omega
  rw [hb]
  obtain ⟨p1, g1⟩ := put9 (u0 := .string (S x.mod)) (u1 := .string (S x.nam)) (u2 := .int .u8 x.kind.toNat) (u3 := .int .u32 x.typ.toNat) (u4 := .int .u32 x.mn.toNat) (u5 := .int .u32 x.mx.toNat) (u6 := .bool x.bd) (u7 := .int .u8 x.gt.toNat) (u8 := .bool x.gm) (HL.out.r1.alloc (.cells #[.int .i64 0, .int .i64 0] 39))
  obtain ⟨p2, g2⟩ := put2 (u0 := .int .i64 0) (u1 := .int .i64 0) ((HL.out.r2.alloc (.cells #[.int .i64 0, .int .i64 0] 39)).grown g1 (by simp only [ne_eq, Option.some.injEq]; omega))
  have p3 := p1.grown g2 (by simp only [ne_eq, Option.some.injEq]; omega)
  have q0 := p3.cell 0
  have q1 := p3.cell 1
  have q2 := p3.cell 2
  have q3 := p3.cell 3
  have q4 := p3.cell 4
  have q5 := p3.cell 5
  have q6 := p3.cell 6
  have q7 := p3.cell 7
  have q8 := p3.cell 8
  have q88 := p2.cell 0
  have q99 := p2.cell 1
  simp only [List.getElem?_toArray, List.getElem?_cons_zero, List.getElem?_cons_succ] at q0 q1 q2 q3 q4 q5 q6 q7 q8 q88 q99
  refine bodyPost_ret (v := .tuple #[imV x, .agg #[.int .i64 0, .int .i64 0]]) (by simp [results, Tryd.results11, go_sem, q0, q1, q2, q3, q4, q5, q6, q7, q8, q88, q99]) rfl ⟨x, rfl, ?_, ?_⟩
  · exact HT.out _ _ _ _ (by omega) (by omega) (HT.out _ _ _ _ (by omega) (by omega) (HT.out _ _ _ w.heap.size (Nat.le_refl _) (by omega) HL.out.kept (gb_alloc (gb_refl _ _) _)) g1) g2
  · exact gb_before (gb_before (gb_alloc HL.out.grown _) g1 (fun g e => .inr (by injection e with e; omega))) g2 (fun g e => .inr (by injection e with e; omega))
end
end Go.Proofs.YtdogjinjbnlgdaaDoor

/- abort.Value of a function that ends well, whatever it hands back: []api.Import. -/
namespace Go.Proofs.YtdogjinjbnlgdaaDoor
open Go.RowKit
set_option linter.unusedVariables false
set_option maxRecDepth 100000

theorem cfVM (cap : Array Value) (w : World) : (callFunc 47 cap).run Tryd.prog w = .ok (.enter 47 cap) w := by kernel_rfl
section
variable {T : (Option Addr × Nat × Nat) → World → Prop}
/-- Value's own closure: what the step hands back lies in its cell. -/
theorem valClosM {g : FuncId} {cap : Array Value} {b1 b4 q : Nat} {w : World} {z : Array Value} (hz : z.size = 1) (hcf : ∀ w : World, (callFunc g cap).run Tryd.prog w = .ok (.enter g cap) w)
    (h1 : Whole w b1 54 #[.func (.func g) #[] cap]) (h4 : Whole w b4 48 #[.slice none 0 0]) (hb : q < b4) (hT : ∀ x W W', T x W → W.grownBy W' (some b4) → T x W')
    (h : Calls Tryd.prog g cap w fun e w' => ∃ x, e = .returned (.slice x.1 x.2.1 x.2.2) ∧ T x w' ∧ w.grownBy w' (some q)) :
    Calls Tryd.prog 47 #[.pointer (some ⟨b1, 0, none⟩), .pointer (some ⟨b4, 0, none⟩)] w fun e w' =>
      e = .returned (.tuple #[]) ∧ ∃ x, T x w' ∧ Whole w' b4 48 #[.slice x.1 x.2.1 x.2.2] ∧ ∃ w1, w.grownBy w1 (some q) ∧ w1.grownBy w' (some b4) := by
  have hnil : ∀ w : World, (binOp BinOp.neq 54 (.func (.func g) #[] cap) .nilFunc).run Tryd.prog w = .ok (.bool true) w := fun _ => by kernel_rfl
  have c1 := h1.cell 0
  simp only [List.getElem?_toArray, List.getElem?_cons_zero] at c1
  have HH := Lib.hid h
  have H4 := Lib.hid h4
  have HT := Lib.hid hT
  clear h h1 h4 hT
  go_enter Tryd.func47, Tryd.ntmps47
  go_wp2_with fail
  refine HH.out.mono ?_
  rintro e w1 ⟨x, rfl, hs, hg⟩
  have HW := H4.out.grown hg (by simp only [ne_eq, Option.some.injEq]; omega)
  have k0 := HW.cell 0
  have f0 := HW.frozen 0
  simp only [List.getElem?_toArray, List.getElem?_cons_zero, List.getElem?_cons_succ] at k0
  obtain ⟨p1, p2⟩ := put1 (u0 := .slice x.1 x.2.1 x.2.2) HW
  have F : Hid (T x (w1.setCell ⟨b4, 0, none⟩ (.slice x.1 x.2.1 x.2.2))) := HT.out _ _ _ hs p2
  have P1 := Lib.hid p1
  have P2 := Lib.hid p2
  have HG := Lib.hid hg
  clear p1 p2 hs hg HW hcf
  go_wp2_with fail
  go_end0
  exact ⟨rfl, x, F.out, P1.out, w1, HG.out, P2.out⟩
/-- What Value's closure leaves behind, seen from Value's beginning. -/
structure VSM (T : (Option Addr × Nat × Nat) → World → Prop) (w : World) (q : Nat) (x : (Option Addr × Nat × Nat)) (w1 : World) : Prop where
  kept : T x w1
  grown : w.grownBy w1 (some q)
  val : Whole w1 (w.heap.size + 2) 48 #[.slice x.1 x.2.1 x.2.2]
  r2 : Whole w1 (w.heap.size + 1) 39 #[.int .i64 0, .int .i64 0]
/-- The world in which Value calls Out. -/
def vWorldM (g : FuncId) (cap : Array Value) (w : World) : World :=
  ((w.alloc (.cells #[.func (.func g) #[] cap] 54)).alloc (.cells #[.int .i64 0, .int .i64 0] 39)).alloc (.cells #[.slice none 0 0] 48)
theorem vWorld_factsM (g : FuncId) (cap : Array Value) (w : World) : (vWorldM g cap w).heap.size = w.heap.size + 3 ∧ Whole (vWorldM g cap w) w.heap.size 54 #[.func (.func g) #[] cap] ∧
    Whole (vWorldM g cap w) (w.heap.size + 1) 39 #[.int .i64 0, .int .i64 0] ∧
    Whole (vWorldM g cap w) (w.heap.size + 2) 48 #[.slice none 0 0] ∧ Below w.heap.size w (vWorldM g cap w) := by
  have b1 := Whole.made w 54 #[.func (.func g) #[] cap]
  have b3 := Whole.made (w.alloc (.cells #[.func (.func g) #[] cap] 54)) 39 #[.int .i64 0, .int .i64 0]
  have b4 := Whole.made ((w.alloc (.cells #[.func (.func g) #[] cap] 54)).alloc (.cells #[.int .i64 0, .int .i64 0] 39)) 48 #[.slice none 0 0]
  simp only [World.size_alloc] at b3 b4
  exact ⟨by simp [vWorldM], (b1.alloc _).alloc _, b3.alloc _, b4,
    (((Below.refl _ _).alloc (Nat.le_refl _) _).alloc (by simp) _).alloc (by simp; omega) _⟩
theorem value_outM {g : FuncId} {cap : Array Value} {q : Nat} {w : World} (hcf : ∀ w : World, (callFunc g cap).run Tryd.prog w = .ok (.enter g cap) w) (hq : q < w.heap.size)
    (hT : ∀ x W W' b, w.heap.size ≤ b → b < w.heap.size + 4 → T x W → W.grownBy W' (some b) → T x W')
    (h : ∀ W, Below w.heap.size w W → w.heap.size + 4 ≤ W.heap.size → Calls Tryd.prog g cap W fun e w' => ∃ x, e = .returned (.slice x.1 x.2.1 x.2.2) ∧ T x w' ∧ W.grownBy w' (some q)) :
    Calls Tryd.prog 34 #[.func (.func 47) #[] #[.pointer (some ⟨w.heap.size, 0, none⟩), .pointer (some ⟨w.heap.size + 2, 0, none⟩)]] (vWorldM g cap w) fun e w' => e = .returned (.agg #[.int .i64 0, .int .i64 0]) ∧ ∃ x, VSM T w q x w' := by
  obtain ⟨hz, b1, b3, b4, hbe⟩ := vWorld_factsM g cap w
  have b5 := Whole.made (vWorldM g cap w) 39 #[.int .i64 0, .int .i64 0]
  have hbe2 : Below w.heap.size w ((vWorldM g cap w).alloc (.cells #[.int .i64 0, .int .i64 0] 39)) := hbe.alloc (by omega) _
  have hc := valClosM (T := T) (z := #[.slice none 0 0]) rfl hcf (b1.alloc (.cells #[.int .i64 0, .int .i64 0] 39)) (b4.alloc _) (by omega : q < w.heap.size + 2) (fun x W W' => hT x W W' _ (by omega) (by omega)) (h _ hbe2 (by rw [size_box]; omega))
  refine (out_any _ _ 0 0 (vWorldM g cap w) (fun w1 => (∃ x, VSM T w q x w1) ∧ Whole w1 (vWorldM g cap w).heap.size 39 #[.int .i64 0, .int .i64 0]) (cfVM _) (hc.mono ?_) (fun _ h => h.2)).mono ?_
  · rintro e w' ⟨rfl, x, hs, hv, w1, hg1, hg2⟩
    have hz2 : w.heap.size + 4 ≤ w1.heap.size := by have := hg1.size; simp only [World.size_alloc] at this; omega
    refine ⟨.inl ⟨rfl, rfl, rfl⟩, ⟨x, hs, ?_, hv, ?_⟩, ?_⟩
    · exact gb_before (gb_trans (gb_of_below (some q) hbe2) hg1) hg2 (fun g e => .inr (by injection e with e; omega))
    · exact ((b3.alloc _).grown hg1 (by simp only [ne_eq, Option.some.injEq]; omega)).grown hg2 (by simp only [ne_eq, Option.some.injEq]; omega)
    · exact (b5.grown hg1 (by simp only [ne_eq, Option.some.injEq]; omega)).grown hg2 (by simp only [ne_eq, Option.some.injEq]; omega)
  · rintro e w' ⟨rfl, w1, ⟨⟨x, hs⟩, _⟩, hg⟩
    rw [hz] at hg
    exact ⟨rfl, x, hT x _ _ _ (by omega) (by omega) hs.kept hg, gb_before hs.grown hg (fun g e => .inr (by injection e with e; omega)), hs.val.grown hg (by simp only [ne_eq, Option.some.injEq]; omega), hs.r2.grown hg (by simp only [ne_eq, Option.some.injEq]; omega)⟩

set_option maxHeartbeats 800000 in
/-- Value of a function that ends well. -/
theorem valueM_ok {g : FuncId} {cap : Array Value} {q : Nat} {w : World} (hcf : ∀ w : World, (callFunc g cap).run Tryd.prog w = .ok (.enter g cap) w) (hq : q < w.heap.size)
    (hT : ∀ x W W' b, w.heap.size ≤ b → b < w.heap.size + 4 → T x W → W.grownBy W' (some b) → T x W')
    (h : ∀ W, Below w.heap.size w W → w.heap.size + 4 ≤ W.heap.size → Calls Tryd.prog g cap W fun e w' => ∃ x, e = .returned (.slice x.1 x.2.1 x.2.2) ∧ T x w' ∧ W.grownBy w' (some q)) :
    Calls Tryd.prog 19 #[.func (.func g) #[] cap] w fun e w' => ∃ x, e = .returned (.tuple #[.slice x.1 x.2.1 x.2.2, .agg #[.int .i64 0, .int .i64 0]]) ∧ T x w' ∧ w.grownBy w' (some q) := by
  have hv := value_outM hcf hq hT h
  unfold vWorldM at hv
  have HV := Lib.hid hv
  have HT := Lib.hid hT
  have hmf : ∀ (fn : Fn) (first cap : Array Value) (w : World), (Instr.makeFunc fn first cap).run Tryd.prog w = .ok (.func fn first cap) w := fun _ _ _ _ => rfl
  clear h hv hcf hT
  go_enter Tryd.func19, Tryd.ntmps19
  go_wp2_with (go_at_call 34; go_must (refine HV.out.mono ?_; rintro e w2 ⟨rfl, x, hl⟩; have k0 := fun o => (hl.val.alloc o).cell 0; have f8 := fun o => (hl.r2.alloc o).frozen 0; have f9 := fun o => (hl.r2.alloc o).frozen 1; have m8 := fun o => (hl.r2.alloc o).cell 0; have m9 := fun o => (hl.r2.alloc o).cell 1; simp only [List.getElem?_toArray, List.getElem?_cons_zero, List.getElem?_cons_succ] at k0 m8 m9; have hz := hl.grown.size; have HL := Lib.hid hl; clear hl))
  obtain ⟨p2, g2⟩ := put2 (u0 := .int .i64 0) (u1 := .int .i64 0) (HL.out.r2.alloc (.cells #[.int .i64 0, .int .i64 0] 39))
  have q8 := p2.cell 0
  have q9 := p2.cell 1
  simp only [List.getElem?_toArray, List.getElem?_cons_zero, List.getElem?_cons_succ] at q8 q9
  refine bodyPost_ret (v := .tuple #[.slice x.1 x.2.1 x.2.2, .agg #[.int .i64 0, .int .i64 0]]) (by simp [results, Tryd.results19, go_sem, q8, q9]) rfl ⟨x, rfl, ?_, ?_⟩
  · exact HT.out _ _ _ _ (by omega) (by omega) (HT.out _ _ _ w.heap.size (Nat.le_refl _) (by omega) HL.out.kept (gb_alloc (gb_refl _ _) _)) g2
  · exact gb_before (gb_alloc HL.out.grown _) g2 (fun g e => .inr (by injection e with e; omega))
end
end Go.Proofs.YtdogjinjbnlgdaaDoor
