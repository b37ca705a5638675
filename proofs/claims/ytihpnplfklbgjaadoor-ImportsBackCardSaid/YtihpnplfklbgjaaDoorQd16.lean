/- imports.Get of an import's bytes. -/
import Derived.Test.YtihpnplfklbgjaaDoorQd15
import Derived.Test.YtihpnplfklbgjaaDoorQd09
import Derived.Test.YtihpnplfklbgjaaDoorQd02
import Derived.RegionTactic
import Derived.Deep.LoopGhost
import Derived.Deep.QuietTactic
import Derived.BigQuiet
import Derived.StillTailTactics
import Derived.Deep.DeepMust
import Derived.Test.YtihpnplfklbgjaaDoorQd10
namespace Go.Proofs.YtihpnplfklbgjaaDoor
open Go.RowKit Go.Lib
set_option linter.unusedVariables false
set_option maxRecDepth 100000

theorem rZ_zero {x : Im} (h : rZ x = 0) : checkZ x.mod = 0 ∧ checkZ x.nam = 0 ∧ x.kind.toNat ≤ 3 ∧ x = ofK x ∧ (x.bd = false → x.mx.toNat = 0) ∧ (x.kind.toNat = 3 → valueZ x.gt.toNat = 0) := by
  unfold rZ at h
  by_cases c1 : checkZ x.mod = 0
  · rw [if_neg (by simpa using c1)] at h
    by_cases c2 : checkZ x.nam = 0
    · rw [if_neg (by simpa using c2)] at h
      by_cases c3 : 3 < x.kind.toNat
      · rw [if_pos c3] at h; omega
      · rw [if_neg c3] at h
        by_cases c4 : x ≠ ofK x ∨ (x.bd = false ∧ x.mx.toNat ≠ 0)
        · rw [if_pos c4] at h; omega
        · rw [if_neg c4] at h
          refine ⟨c1, c2, by omega, ?_, fun hb => ?_, fun hk => ?_⟩
          · exact Decidable.byContradiction fun q => c4 (.inl q)
          · exact Decidable.byContradiction fun q => c4 (.inr ⟨hb, q⟩)
          · rw [if_pos hk] at h; exact h
    · rw [if_pos c2] at h; exact absurd h c2
  · rw [if_pos c1] at h; exact absurd h c1
/-- Get, of an import's bytes. -/
theorem get_im {w : World} {p : Nat} {l r : List UInt8} {k : Nat} {x : Im} (h : Sc w p l k) (hT : TbN p w) (hd : l.drop k = iputL x ++ r) (hz : rZ x = 0) :
    Calls Tryd.prog 66 #[.pointer (some ⟨p, 0, none⟩)] w (Gots p l (k + (iputL x).length) x w) := by
  obtain ⟨c1, c2, c3, ho, hb, hg⟩ := rZ_zero hz
  obtain ⟨s1, s2⟩ := checkZ_zero c1
  obtain ⟨t1, t2⟩ := checkZ_zero c2
  have hi : iputL x = nmL x.mod ++ (nmL x.nam ++ (x.kind :: desL x)) := by unfold iputL; simp
  have hd1 : l.drop k = nmL x.mod ++ (nmL x.nam ++ (x.kind :: (desL x ++ r))) := by rw [hd, hi]; simp
  have n1 := nameR_at hd1 s1 s2
  have hd2 := drop_past hd1
  have n2 := nameR_at hd2 t1 t2
  have hd3 := drop_past hd2
  have n3 := byteR_at hd3
  have hd4 : l.drop (k + (nmL x.mod).length + (nmL x.nam).length + 1) = desL x ++ r := by
    have := drop_past (a := [x.kind]) (r := desL x ++ r) (by simpa using hd3)
    simpa using this
  have hlen : k + (iputL x).length = k + (nmL x.mod).length + (nmL x.nam).length + 1 + (desL x).length := by
    rw [hi]; simp only [List.length_append, List.length_cons]; omega
  rw [hlen]
  have u1 := u32_le x.mn
  have u2 := u32_le x.mx
  have u3 := u32_le x.typ
  have hbz : x.bd = false → (x.mx.toNat : Int) = 0 := fun q => by have := hb q; omega
  by_cases k0 : x.kind.toNat = 0
  · have e : desL x = lebL x.typ.toNat := by unfold desL; rw [if_pos k0]
    rw [e] at hd4 ⊢
    exact get_0 h hT n1 n2 n3 k0 (indexR_at hd4 (by omega) u3) (by conv => lhs; rw [ho]; unfold ofK; rw [if_pos k0])
  by_cases k1 : x.kind.toNat = 1
  · have e : desL x = [112] ++ encLim x.mn.toNat x.mx.toNat x.bd := by unfold desL; rw [if_neg k0, if_pos k1]
    rw [e] at hd4 ⊢
    rw [List.length_append, List.length_singleton]
    have hd4' : l.drop (k + (nmL x.mod).length + (nmL x.nam).length + 1) = 112 :: (encLim x.mn.toNat x.mx.toNat x.bd ++ r) := by rw [hd4]; simp
    have ht : tagR l (k + (nmL x.mod).length + (nmL x.nam).length + 1) 112 = .ok () (k + (nmL x.mod).length + (nmL x.nam).length + 1 + 1) := by
      unfold tagR
      rw [byteR_at hd4', Res.bind_ok, if_pos (by rfl)]
    have hd5 : l.drop (k + (nmL x.mod).length + (nmL x.nam).length + 1 + 1) = encLim x.mn.toNat x.mx.toNat x.bd ++ r := by
      have := drop_past (a := [112]) (r := encLim x.mn.toNat x.mx.toNat x.bd ++ r) (by simpa using hd4')
      simpa using this
    have hl := limR_at hd5 (by omega) u1 (by omega) u2 hbz
    rw [← Nat.add_assoc]
    exact get_1 h hT n1 n2 n3 k1 ht hl (by conv => lhs; rw [ho]; unfold ofK; rw [if_neg k0, if_pos (.inl k1)])
  by_cases k2 : x.kind.toNat = 2
  · have e : desL x = encLim x.mn.toNat x.mx.toNat x.bd := by unfold desL; rw [if_neg k0, if_neg k1, if_pos k2]
    rw [e] at hd4 ⊢
    exact get_2 h hT n1 n2 n3 k2 (limR_at hd4 (by omega) u1 (by omega) u2 hbz) (by conv => lhs; rw [ho]; unfold ofK; rw [if_neg k0, if_pos (.inr k2)])
  have k3 : x.kind.toNat = 3 := by omega
  have e : desL x = encG x.gt.toNat x.gm := by unfold desL; rw [if_neg k0, if_neg k1, if_neg k2]
  rw [e] at hd4 ⊢
  exact get_3 h hT n1 n2 n3 k3 (globR_at hd4 (hg k3)) (by conv => lhs; rw [ho]; unfold ofK; rw [if_neg k0, if_neg (by omega), if_pos k3])
end Go.Proofs.YtihpnplfklbgjaaDoor

/- imports.PutAll. -/
namespace Go.Proofs.YtihpnplfklbgjaaDoor
open Go.RowKit
set_option linter.unusedVariables false
set_option maxRecDepth 100000

/-- The first error. -/
def errL : List Im → Int
  | [] => 0
  | x :: r => if rZ x ≠ 0 then rZ x else errL r
theorem errL_app : ∀ a b : List Im, errL (a ++ b) = if errL a ≠ 0 then errL a else errL b
  | [], b => by simp [errL]
  | x :: a, b => by
    simp only [List.cons_append, errL]
    by_cases h : rZ x = 0
    · simp only [h, ne_eq, not_true_eq_false, if_false, errL_app a b]
    · simp [h]
theorem errL_snoc {l : List Im} {k : Nat} {x : Im} (h : l[k]? = some x) : errL (l.take (k + 1)) = if errL (l.take k) ≠ 0 then errL (l.take k) else rZ x := by
  rw [List.take_add_one, h]
  show errL (l.take k ++ [x]) = _
  rw [errL_app]
  by_cases e : rZ x = 0 <;> simp [errL, e]
theorem errL_bad {l : List Im} {k : Nat} (h : errL (l.take k) ≠ 0) : errL l = errL (l.take k) := by
  conv => lhs; rw [← List.take_append_drop k l]
  rw [errL_app, if_pos h]
theorem errL_mem : ∀ {l : List Im}, errL l = 0 → ∀ x ∈ l, rZ x = 0
  | [], _, x, hx => by cases hx
  | y :: l, h, x, hx => by
    simp only [errL] at h
    by_cases e : rZ y = 0
    · simp only [e, ne_eq, not_true_eq_false, if_false] at h
      rcases List.mem_cons.1 hx with rfl | hx
      · exact e
      · exact errL_mem h x hx
    · simp [e] at h
/-- Many imports' bytes. -/
noncomputable def iputsL (l : List Im) : List UInt8 := l.flatMap iputL
theorem iputsL_snoc {l : List Im} {k : Nat} {x : Im} (h : l[k]? = some x) : iputsL (l.take (k + 1)) = iputsL (l.take k) ++ iputL x := by
  unfold iputsL
  rw [List.take_add_one, h, List.flatMap_append]
  simp
/-- The names are short. -/
def ShortI (l : List Im) : Prop := ∀ x ∈ l, x.mod.length ≤ 400 ∧ x.nam.length ≤ 400
theorem iputsL_len : ∀ {l : List Im}, ShortI l → (iputsL l).length ≤ l.length * 843
  | [], _ => by simp [iputsL]
  | x :: r, h => by
    have h1 := iputsL_len (l := r) (fun y hy => h y (List.mem_cons_of_mem _ hy))
    have h2 := h x (by simp)
    have h3 := (iputL_len (n := 400) h2.1 h2.2 (by omega)).2
    unfold iputsL at h1 ⊢
    rw [List.flatMap_cons, List.length_append, List.length_cons]
    omega
noncomputable def allL (l : List Im) : List UInt8 := lebL l.length ++ iputsL l
/-- What PutAll hands back. -/
def PuttedAll (l : List Im) (w : World) (e : Ending) (w' : World) : Prop := ∃ v, e = .returned (.tuple #[v, .int .i64 (errL l)]) ∧ Row w' w.heap.size v (if errL l = 0 then allL l else []) ∧ Below w.heap.size w w'
theorem cfIP (a : Array Value) (w : World) : (callFunc 57 a).run Tryd.prog w = .ok (.enter 57 a) w := by kernel_rfl
set_option maxHeartbeats 4000000 in
theorem wputall_im {w : World} {A : Option Addr} {c : Nat} {l : List Im} (hl : Ims w A l) (hT : TabsU w) (hs : ShortI l) (h20 : l.length ≤ 1000) :
    Calls Tryd.prog 63 #[.slice A l.length c, .func (.func 57) #[] #[]] w (PuttedAll l w) := by
  have HL := Lib.hid hl
  have HTb := Lib.hid hT
  have HSh := Lib.hid hs
  have hall := iputsL_len hs
  have hlb := lebL_len (l.length : Int) (by omega)
  have HZ := Lib.hid (fun W => size_w l.length W (by omega))
  obtain ⟨n, hn⟩ : ∃ n, n = l.length := ⟨_, rfl⟩
  obtain ⟨hd, hhd⟩ : ∃ hd, hd = lebL (l.length : Int) := ⟨_, rfl⟩
  rw [← hhd] at HZ hlb
  have HN := Lib.hid hn
  have HE := Lib.hid (show l.take n = l by rw [hn, List.take_length])
  have HAL := Lib.hid (show allL l = hd ++ iputsL l by rw [hhd]; rfl)
  have HPL := Lib.hid (fun k => show (iputsL (l.take k)).length ≤ (iputsL l).length by
    have e : iputsL l = iputsL (l.take k) ++ iputsL (l.drop k) := by unfold iputsL; rw [← List.flatMap_append, List.take_append_drop]
    rw [e, List.length_append]; omega)
  rw [← hn] at hall h20 HZ ⊢
  have d10 : decide ((10000 : Int) < (n : Int)) = false := decide_eq_false (by omega)
  have hcf := cfIP
  clear hl hT hs hn hhd
  go_enter Tryd.func63, Tryd.ntmps63
  go_wp2_with (go_at_call 76; go_must ((with_reducible refine (HZ.out _).mono ?_); intro e w1 h; obtain ⟨v, rfl, hr, hb⟩ := h; have HR := Lib.hid hr; have HB := Lib.hid hb; clear hr hb))
  go_loopw [6, 19] (fun v i wr => ∃ k : Nat, k ≤ n ∧ i = .int .i64 k ∧ errL (l.take k) = 0 ∧ Row wr w.heap.size v (hd ++ iputsL (l.take k)) ∧ Below w.heap.size w wr) (fun _ i _ => n - (intOf i).toNat)
  case atStart => exact ⟨0, Nat.zero_le _, rfl, rfl, by simpa [iputsL] using HR.out, HB.out⟩
  case round =>
    obtain ⟨k, hk, rfl, he, hr, hb⟩ := hrel
    have hz1 := hb.size
    by_cases hlt : k < n
    · obtain ⟨x, hx⟩ : ∃ x, l[k]? = some x := ⟨_, List.getElem?_eq_getElem (by rw [← HN.out]; exact hlt)⟩
      obtain ⟨b, off, rfl, hbl, m0, m1, m2, m3, m4, m5, m6, m7, m8⟩ := (HL.out.below hb).nine hx
      have hxs := HSh.out x (List.mem_of_getElem? hx)
      have hTk := errL_snoc hx
      have hPk := iputsL_snoc hx
      have hpl := HPL.out (k + 1)
      have HB2 := Lib.hid (hb.alloc hz1 (.cells (imC x) 52))
      have HR2 := Lib.hid (hr.alloc (.cells (imC x) 52))
      have HP := Lib.hid (put_im x (wr.alloc (.cells (imC x) 52)) (HTb.out.below HB2.out) (by omega) (by omega))
      have hzb : wr.heap.size ≤ (wr.alloc (.cells (imC x) 52)).heap.size := (below_box wr _).size
      rw [he] at hTk
      simp only [ne_eq, not_true_eq_false, if_false] at hTk
      unfold Putted at HP
      have HTk := Lib.hid hTk
      have HPk := Lib.hid hPk
      by_cases z0 : rZ x = 0
      · rw [if_pos z0, z0] at HP
        have hil := iputL_len (n := 400) hxs.1 hxs.2 (by omega)
        have hsz : (hd ++ iputsL (l.take k)).length + (iputL x).length ≤ 1000000 := by
          rw [hPk, List.length_append] at hpl
          rw [List.length_append]
          omega
        have HIL := Lib.hid hil
        have HSZ := Lib.hid hsz
        obtain ⟨y, hy⟩ : ∃ y, y = iputL x := ⟨_, rfl⟩
        rw [← hy] at HP HPk HIL HSZ
        have HZ0 := Lib.hid z0
        clear hTk hPk hpl he hr hb z0 hil hsz hy hxs
        go_wp2_with (first
          | (go_at_call 57; go_must ((with_reducible refine HP.out.mono ?_); intro e w3 h; obtain ⟨v3, rfl, hr3, hb3⟩ := h; obtain ⟨A3, c3, rfl, hp3⟩ := hr3.pc; have HP3 := Lib.hid hp3; have HR3 := Lib.hid (HR2.out.later hb3); have HB3 := Lib.hid (HB2.out.trans (hb3.mono HB2.out.size)); have hz3 := HB3.out.size; clear hr3 hb3 hp3))
          | (at_builtin; (refine row_any rfl _ _ rfl w.heap.size _ (hd ++ iputsL (l.take k)) rfl HR3.out A3 y.length c3 w3.heap.size y rfl rfl HP3.out.lies HP3.out.nil HSZ.out hz3 ?_; intro v4 w4 hr4 hb4; have HR4 := Lib.hid hr4; have HB4 := Lib.hid hb4; clear hr4 hb4)))
        go_roundw
        case rel => exact ⟨k + 1, by omega, by go_num, by rw [HTk.out]; exact HZ0.out, by rw [HPk.out, ← List.append_assoc]; exact HR4.out, HB3.out.trans HB4.out⟩
        case measure => simp [intOf]; omega
      · rw [if_neg z0] at HP
        have hbad := errL_bad (l := l) (k := k + 1) (by rw [hTk]; exact z0)
        rw [hTk] at hbad
        have HBAD := Lib.hid hbad
        have dz : (rZ x != 0) = true := zb_of (by simpa using z0)
        have HZ0 := Lib.hid (show ¬ errL l = 0 by rw [hbad]; exact z0)
        clear hTk hPk hpl he hr hb z0 hbad hxs
        generalize rZ x = z at *
        go_wp2_with (go_at_call 57; go_must ((with_reducible refine HP.out.mono ?_); intro e w3 h; obtain ⟨v3, rfl, hr3, hb3⟩ := h; have HB3 := Lib.hid (HB2.out.trans (hb3.mono HB2.out.size)); clear hr3 hb3))
        go_ret2
        exact ⟨_, ret_pair HBAD.out.symm, by rw [if_neg HZ0.out]; exact Row.nil _ _, HB3.out⟩
    · obtain rfl : k = n := by omega
      rw [HE.out] at he
      rw [HE.out] at hr
      have HE2 := Lib.hid he
      have HR2 := Lib.hid hr
      have HB2 := Lib.hid hb
      clear hr hb he
      go_wp2
      go_ret2
      exact ⟨_, ret_pair HE2.out.symm, by rw [if_pos HE2.out, HAL.out]; exact HR2.out, HB2.out⟩
theorem putall_im {w : World} {A : Option Addr} {c : Nat} {l : List Im} (hl : Ims w A l) (hT : TabsU w) (hs : ShortI l) (h20 : l.length ≤ 1000) :
    Calls Tryd.prog 22 #[.slice A l.length c] w (PuttedAll l w) := by
  have HP := Lib.hid (wputall_im (c := c) hl hT hs h20)
  unfold PuttedAll at HP
  clear hl hT hs h20
  go_enter Tryd.func22, Tryd.ntmps22
  go_wp2_with (go_at_call 63; go_must ((with_reducible refine HP.out.mono ?_); intro e w1 h; obtain ⟨v, rfl, hr, hb⟩ := h; have HR := Lib.hid hr; have HB := Lib.hid hb; clear hr hb))
  go_ret2
  exact ⟨_, rfl, HR.out, HB.out⟩
end Go.Proofs.YtihpnplfklbgjaaDoor

/- abort.Value of a function that ends well, whatever it hands back: api.Import. (By gen/genIVal.py.) -/
namespace Go.Proofs.YtihpnplfklbgjaaDoor
open Go.RowKit
set_option linter.unusedVariables false
set_option maxRecDepth 100000

section
variable {T : Im → World → Prop}
/-- What Value's closure leaves behind, seen from Value's beginning. -/
structure VSJ (T : Im → World → Prop) (w : World) (q : Nat) (x : Im) (w1 : World) : Prop where
  kept : T x w1
  grown : w.grownBy w1 (some q)
  val : Whole w1 (w.heap.size + 3) 52 #[.string (S x.mod), .string (S x.nam), .int .u8 x.kind.toNat, .int .u32 x.typ.toNat, .int .u32 x.mn.toNat, .int .u32 x.mx.toNat, .bool x.bd, .int .u8 x.gt.toNat, .bool x.gm]
  r1 : Whole w1 (w.heap.size + 1) 52 #[.string { data := #[] }, .string { data := #[] }, .int .u8 0, .int .u32 0, .int .u32 0, .int .u32 0, .bool false, .int .u8 0, .bool false]
  r2 : Whole w1 (w.heap.size + 2) 37 #[.int .i64 0, .int .i64 0]
end
end Go.Proofs.YtihpnplfklbgjaaDoor

/- abort.Value of a function that ends well, whatever it hands back: []api.Import. -/
namespace Go.Proofs.YtihpnplfklbgjaaDoor
open Go.RowKit
set_option linter.unusedVariables false
set_option maxRecDepth 100000

theorem cfVM (cap : Array Value) (w : World) : (callFunc 64 cap).run Tryd.prog w = .ok (.enter 64 cap) w := by kernel_rfl
section
variable {T : (Option Addr × Nat × Nat) → World → Prop}
/-- Value's own closure: what the step hands back lies in its cell. -/
theorem valClosM {g : FuncId} {cap : Array Value} {b1 b4 q : Nat} {w : World} {z : Array Value} (hz : z.size = 1) (hcf : ∀ w : World, (callFunc g cap).run Tryd.prog w = .ok (.enter g cap) w)
    (h1 : Whole w b1 59 #[.func (.func g) #[] cap]) (h4 : Whole w b4 45 #[.slice none 0 0]) (hb : q < b4) (hT : ∀ x W W', T x W → W.grownBy W' (some b4) → T x W')
    (h : Calls Tryd.prog g cap w fun e w' => ∃ x, e = .returned (.slice x.1 x.2.1 x.2.2) ∧ T x w' ∧ w.grownBy w' (some q)) :
    Calls Tryd.prog 64 #[.pointer (some ⟨b1, 0, none⟩), .pointer (some ⟨b4, 0, none⟩)] w fun e w' =>
      e = .returned (.tuple #[]) ∧ ∃ x, T x w' ∧ Whole w' b4 45 #[.slice x.1 x.2.1 x.2.2] ∧ ∃ w1, w.grownBy w1 (some q) ∧ w1.grownBy w' (some b4) := by
  have hnil : ∀ w : World, (binOp BinOp.neq 59 (.func (.func g) #[] cap) .nilFunc).run Tryd.prog w = .ok (.bool true) w := fun _ => by kernel_rfl
  have c1 := h1.cell 0
  simp only [List.getElem?_toArray, List.getElem?_cons_zero] at c1
  have HH := Lib.hid h
  have H4 := Lib.hid h4
  have HT := Lib.hid hT
  clear h h1 h4 hT
  go_enter Tryd.func64, Tryd.ntmps64
  go_wp2_with fail
  refine HH.out.mono ?_
  rintro e w1 ⟨x, rfl, hs, hg⟩
  have HW := H4.out.grown hg (by simp only [ne_eq, Option.some.injEq]; omega)
  have k0 := HW.cell 0
  have f0 := HW.frozen 0
  simp only [List.getElem?_toArray, List.getElem?_cons_zero] at k0
  obtain ⟨p1, p2⟩ := put1 (u0 := .slice x.1 x.2.1 x.2.2) HW
  have F : Hid (T x (w1.setCell ⟨b4, 0, none⟩ (.slice x.1 x.2.1 x.2.2))) := HT.out _ _ _ hs p2
  have P1 := Lib.hid p1
  have P2 := Lib.hid p2
  have HG := Lib.hid hg
  clear p1 p2 hs hg HW hcf
  go_wp2_with fail
  go_end0
  exact ⟨rfl, x, F.out, P1.out, w1, HG.out, P2.out⟩
/-- What Value's closure leaves behind, seen from Value's beginning. -/
structure VSM (T : (Option Addr × Nat × Nat) → World → Prop) (w : World) (q : Nat) (x : (Option Addr × Nat × Nat)) (w1 : World) : Prop where
  kept : T x w1
  grown : w.grownBy w1 (some q)
  val : Whole w1 (w.heap.size + 2) 45 #[.slice x.1 x.2.1 x.2.2]
  r2 : Whole w1 (w.heap.size + 1) 37 #[.int .i64 0, .int .i64 0]
/-- The world in which Value calls Out. -/
def vWorldM (g : FuncId) (cap : Array Value) (w : World) : World :=
  ((w.alloc (.cells #[.func (.func g) #[] cap] 59)).alloc (.cells #[.int .i64 0, .int .i64 0] 37)).alloc (.cells #[.slice none 0 0] 45)
theorem vWorld_factsM (g : FuncId) (cap : Array Value) (w : World) : (vWorldM g cap w).heap.size = w.heap.size + 3 ∧ Whole (vWorldM g cap w) w.heap.size 59 #[.func (.func g) #[] cap] ∧
    Whole (vWorldM g cap w) (w.heap.size + 1) 37 #[.int .i64 0, .int .i64 0] ∧
    Whole (vWorldM g cap w) (w.heap.size + 2) 45 #[.slice none 0 0] ∧ Below w.heap.size w (vWorldM g cap w) := by
  have b1 := Whole.made w 59 #[.func (.func g) #[] cap]
  have b3 := Whole.made (w.alloc (.cells #[.func (.func g) #[] cap] 59)) 37 #[.int .i64 0, .int .i64 0]
  have b4 := Whole.made ((w.alloc (.cells #[.func (.func g) #[] cap] 59)).alloc (.cells #[.int .i64 0, .int .i64 0] 37)) 45 #[.slice none 0 0]
  simp only [World.size_alloc] at b3 b4
  exact ⟨by simp [vWorldM], (b1.alloc _).alloc _, b3.alloc _, b4,
    (((Below.refl _ _).alloc (Nat.le_refl _) _).alloc (by simp) _).alloc (by simp; omega) _⟩
theorem value_outM {g : FuncId} {cap : Array Value} {q : Nat} {w : World} (hcf : ∀ w : World, (callFunc g cap).run Tryd.prog w = .ok (.enter g cap) w) (hq : q < w.heap.size)
    (hT : ∀ x W W' b, w.heap.size ≤ b → b < w.heap.size + 4 → T x W → W.grownBy W' (some b) → T x W')
    (h : ∀ W, Below w.heap.size w W → w.heap.size + 4 ≤ W.heap.size → Calls Tryd.prog g cap W fun e w' => ∃ x, e = .returned (.slice x.1 x.2.1 x.2.2) ∧ T x w' ∧ W.grownBy w' (some q)) :
    Calls Tryd.prog 45 #[.func (.func 64) #[] #[.pointer (some ⟨w.heap.size, 0, none⟩), .pointer (some ⟨w.heap.size + 2, 0, none⟩)]] (vWorldM g cap w) fun e w' => e = .returned (.agg #[.int .i64 0, .int .i64 0]) ∧ ∃ x, VSM T w q x w' := by
  obtain ⟨hz, b1, b3, b4, hbe⟩ := vWorld_factsM g cap w
  have b5 := Whole.made (vWorldM g cap w) 37 #[.int .i64 0, .int .i64 0]
  have hbe2 : Below w.heap.size w ((vWorldM g cap w).alloc (.cells #[.int .i64 0, .int .i64 0] 37)) := hbe.alloc (by omega) _
  have hc := valClosM (T := T) (z := #[.slice none 0 0]) rfl hcf (b1.alloc (.cells #[.int .i64 0, .int .i64 0] 37)) (b4.alloc _) (by omega : q < w.heap.size + 2) (fun x W W' => hT x W W' _ (by omega) (by omega)) (h _ hbe2 (by rw [size_box]; omega))
  refine (out_any _ _ 0 0 (vWorldM g cap w) (fun w1 => (∃ x, VSM T w q x w1) ∧ Whole w1 (vWorldM g cap w).heap.size 37 #[.int .i64 0, .int .i64 0]) (cfVM _) (hc.mono ?_) (fun _ h => h.2)).mono ?_
  · rintro e w' ⟨rfl, x, hs, hv, w1, hg1, hg2⟩
    have hz2 : w.heap.size + 4 ≤ w1.heap.size := by have := hg1.size; simp only [World.size_alloc] at this; omega
    refine ⟨.inl ⟨rfl, rfl, rfl⟩, ⟨x, hs, ?_, hv, ?_⟩, ?_⟩
    · exact gb_before (gb_trans (gb_of_below (some q) hbe2) hg1) hg2 (fun g e => .inr (by injection e with e; omega))
    · exact ((b3.alloc _).grown hg1 (by simp only [ne_eq, Option.some.injEq]; omega)).grown hg2 (by simp only [ne_eq, Option.some.injEq]; omega)
    · exact (b5.grown hg1 (by simp only [ne_eq, Option.some.injEq]; omega)).grown hg2 (by simp only [ne_eq, Option.some.injEq]; omega)
  · rintro e w' ⟨rfl, w1, ⟨⟨x, hs⟩, _⟩, hg⟩
    rw [hz] at hg
    exact ⟨rfl, x, hT x _ _ _ (by omega) (by omega) hs.kept hg, gb_before hs.grown hg (fun g e => .inr (by injection e with e; omega)), hs.val.grown hg (by simp only [ne_eq, Option.some.injEq]; omega), hs.r2.grown hg (by simp only [ne_eq, Option.some.injEq]; omega)⟩

set_option maxHeartbeats 800000 in
/-- Value of a function that ends well. -/
theorem valueM_ok {g : FuncId} {cap : Array Value} {q : Nat} {w : World} (hcf : ∀ w : World, (callFunc g cap).run Tryd.prog w = .ok (.enter g cap) w) (hq : q < w.heap.size)
    (hT : ∀ x W W' b, w.heap.size ≤ b → b < w.heap.size + 4 → T x W → W.grownBy W' (some b) → T x W')
    (h : ∀ W, Below w.heap.size w W → w.heap.size + 4 ≤ W.heap.size → Calls Tryd.prog g cap W fun e w' => ∃ x, e = .returned (.slice x.1 x.2.1 x.2.2) ∧ T x w' ∧ W.grownBy w' (some q)) :
    Calls Tryd.prog 23 #[.func (.func g) #[] cap] w fun e w' => ∃ x, e = .returned (.tuple #[.slice x.1 x.2.1 x.2.2, .agg #[.int .i64 0, .int .i64 0]]) ∧ T x w' ∧ w.grownBy w' (some q) := by
  have hv := value_outM hcf hq hT h
  unfold vWorldM at hv
  have HV := Lib.hid hv
  have HT := Lib.hid hT
  have hmf : ∀ (fn : Fn) (first cap : Array Value) (w : World), (Instr.makeFunc fn first cap).run Tryd.prog w = .ok (.func fn first cap) w := fun _ _ _ _ => rfl
  clear h hv hcf hT
  go_enter Tryd.func23, Tryd.ntmps23
  go_wp2_with (go_at_call 45; go_must (refine HV.out.mono ?_; rintro e w2 ⟨rfl, x, hl⟩; have k0 := fun o => (hl.val.alloc o).cell 0; have f8 := fun o => (hl.r2.alloc o).frozen 0; have f9 := fun o => (hl.r2.alloc o).frozen 1; have m8 := fun o => (hl.r2.alloc o).cell 0; have m9 := fun o => (hl.r2.alloc o).cell 1; simp only [List.getElem?_toArray, List.getElem?_cons_zero] at k0 m8 m9; have hz := hl.grown.size; have HL := Lib.hid hl; clear hl))
  obtain ⟨p2, g2⟩ := put2 (u0 := .int .i64 0) (u1 := .int .i64 0) (HL.out.r2.alloc (.cells #[.int .i64 0, .int .i64 0] 37))
  have q8 := p2.cell 0
  have q9 := p2.cell 1
  simp only [List.getElem?_toArray, List.getElem?_cons_zero, List.getElem?_cons_succ] at q8 q9
  refine bodyPost_ret (v := .tuple #[.slice x.1 x.2.1 x.2.2, .agg #[.int .i64 0, .int .i64 0]]) (by simp [results, Tryd.results23, go_sem, q8, q9]) rfl ⟨x, rfl, ?_, ?_⟩
  · exact HT.out _ _ _ _ (by omega) (by omega) (HT.out _ _ _ w.heap.size (Nat.le_refl _) (by omega) HL.out.kept (gb_alloc (gb_refl _ _) _)) g2
  · exact gb_before (gb_alloc HL.out.grown _) g2 (fun g e => .inr (by injection e with e; omega))
end
end Go.Proofs.YtihpnplfklbgjaaDoor

/- imports.GetAll of a list's bytes; the laws' closures. -/
namespace Go.Proofs.YtihpnplfklbgjaaDoor
open Go.RowKit
set_option linter.unusedVariables false
set_option maxRecDepth 100000

/-- What holds at the head of GetAll's loop. -/
structure AIn (w : World) (p : Nat) (l : List UInt8) (k : Nat) (xs : List Im) (v : Value) (W : World) : Prop where
  sc : Sc W p l k
  g : w.grownBy W (some p)
  r : RowM W w.heap.size v xs
  tb : TbN p W
section
variable {w W W' : World} {p : Nat} {l : List UInt8} {k k' : Nat} {xs : List Im} {x : Im} {v v' : Value}
theorem AIn.step (h : AIn w p l k xs v W) (hp : p < w.heap.size) (hg : W.grownBy W' (some p)) (hs : Sc W' p l k') : AIn w p l k' xs v W' :=
  ⟨hs, gb_trans h.g hg, h.r.past hg hp, h.tb.keep hg (Nat.le_refl _)⟩
theorem AIn.alloc (h : AIn w p l k xs v W) (hp : p < w.heap.size) (o : Obj) : AIn w p l k xs v (W.alloc o) := h.step hp (gb_alloc (gb_refl _ _) o) (h.sc.alloc o)
theorem AIn.more (h : AIn w p l k xs v W) (hp : p < w.heap.size) (hg : W.grownBy W' v.ownBlock) (hr : RowM W' w.heap.size v' (xs ++ [x])) : AIn w p l k (xs ++ [x]) v' W' := by
  have hlt := World.ownsRow.lt h.r
  refine ⟨h.sc.grown hg (fun e => by have := hlt p e.symm; omega) (fun g e => by have := hlt g e; omega), gb_before h.g hg (fun g e => .inr (hlt g e).1), hr, ?_⟩
  obtain ⟨⟨h1, h2⟩, h3, h4, h5⟩ := h.tb
  have key : ∀ b o, b < p → W'.cell? ⟨b, o, none⟩ = W.cell? ⟨b, o, none⟩ := fun b o hb => by
    unfold World.cell?
    rw [hg.block b (by omega) (fun e => by have := hlt b e.symm; omega)]
  exact ⟨⟨fun c hc => (key _ _ h3).trans (h1 c hc), fun i hi => ⟨(key _ _ h4).trans (h2 i hi).1, (key _ _ h4).trans (h2 i hi).2⟩⟩, h3, h4, Nat.le_trans h5 hg.size⟩
end
/-- The list that was read. -/
def GotAll (p : Nat) (l : List UInt8) (xs : List Im) (w : World) (e : Ending) (w' : World) : Prop := ∃ v, e = .returned v ∧ RowM w' w.heap.size v xs ∧ Sc w' p l l.length ∧ w.grownBy w' (some p)
theorem cfIG (a : Array Value) (w : World) : (callFunc 66 a).run Tryd.prog w = .ok (.enter 66 a) w := by kernel_rfl
set_option maxHeartbeats 4000000 in
theorem wgetitems_im {w : World} {p : Nat} {l : List UInt8} {xs : List Im} (h : Sc w p l 0) (hT : TbN p w) (hd : l = allL xs) (hz : errL xs = 0) (hn1 : xs.length ≤ 1000) :
    Calls Tryd.prog 93 #[.pointer (some ⟨p, 0, none⟩), .func (.func 66) #[] #[]] w (GotAll p l xs w) := by
  have hp := h.lt
  have hd0 : l.drop 0 = lebL (xs.length : Int) ++ iputsL xs := by rw [hd]; rfl
  have hc := count_scan h
  rw [countR_at hd0 (by omega) (by omega)] at hc
  have hd1 := drop_past hd0
  rw [Nat.zero_add] at hc hd1
  have HC := Lib.hid hc
  obtain ⟨n, hn⟩ : ∃ n, n = xs.length := ⟨_, rfl⟩
  rw [← hn] at HC hn1
  have HN := Lib.hid hn
  have HE := Lib.hid (show xs.take n = xs ∧ xs.drop n = [] by rw [hn]; exact ⟨List.take_length, List.drop_length⟩)
  have HM := Lib.hid (errL_mem hz)
  have HT := Lib.hid hT
  obtain ⟨k0, hk0⟩ : ∃ k0, k0 = (lebL (n : Int)).length := ⟨_, rfl⟩
  rw [← hn, ← hk0] at hd1
  rw [← hk0] at HC
  have HD := Lib.hid hd1
  have hcf := cfIG
  clear h hT hd hd0 hc hz hn hd1 hk0
  go_enter Tryd.func93, Tryd.ntmps93
  go_wp2_with (go_at_call 111; go_must ((with_reducible refine HC.out.mono ?_); rintro e w1 ⟨rfl, hs, hg⟩; have HS := Lib.hid hs; have HG := Lib.hid hg; clear hs hg))
  go_loopw [5, 8] (fun v i wr => ∃ j k : Nat, j ≤ n ∧ i = .int .i64 j ∧ AIn w p l k (xs.take j) v wr ∧ l.drop k = iputsL (xs.drop j)) (fun _ i _ => n - (intOf i).toNat)
  case atStart => exact ⟨0, k0, Nat.zero_le _, rfl, ⟨HS.out, HG.out, RowM.nil _ _, HT.out.keep HG.out (Nat.le_refl _)⟩, HD.out⟩
  case round =>
    obtain ⟨j, k, hj, rfl, ha, hdk⟩ := hrel
    by_cases hlt : j < n
    · obtain ⟨x, hx⟩ : ∃ x, xs[j]? = some x := ⟨_, List.getElem?_eq_getElem (by rw [← HN.out]; exact hlt)⟩
      have hj2 : j < xs.length := by rw [← HN.out]; exact hlt
      have hdx : xs.drop j = x :: xs.drop (j + 1) := by
        obtain ⟨q1, q2⟩ := List.getElem?_eq_some_iff.1 hx
        rw [List.drop_eq_getElem_cons q1, q2]
      have hdk2 : l.drop k = iputL x ++ iputsL (xs.drop (j + 1)) := by rw [hdk, hdx]; unfold iputsL; rw [List.flatMap_cons]
      have HGe := Lib.hid (get_im ha.sc ha.tb hdk2 (HM.out x (List.mem_of_getElem? hx)))
      have HDK := Lib.hid (drop_past hdk2)
      have HTk := Lib.hid (show xs.take (j + 1) = xs.take j ++ [x] by rw [List.take_add_one, hx]; rfl)
      have HA := Lib.hid ha
      have hle : (xs.take j).length ≤ 10000 := by rw [List.length_take]; omega
      clear ha hdk hdk2 hdx hx hj2
      go_wp2_with (first
        | (go_at_call 66; go_must ((with_reducible refine HGe.out.mono ?_); rintro e w2 ⟨rfl, hs, hg⟩; have HA2 := Lib.hid (HA.out.step hp hg hs); have hz2 := HA2.out.g.size; have HX := Lib.hid (Whole.made w2 52 (imC x)); clear hs hg))
        | (at_builtin; (refine rowM_new rfl _ _ rfl w.heap.size _ (xs.take j) rfl (HA2.out.alloc hp _).r w2.heap.size x rfl HX.out hle (Nat.le_trans hz2 (below_box w2 _).size) ?_; intro v3 w3 hr3 hg3; have HA3 := Lib.hid ((HA2.out.alloc hp _).more hp hg3 hr3); clear hr3 hg3)))
      go_roundw
      case rel => exact ⟨j + 1, k + (iputL x).length, by omega, by go_num, by rw [HTk.out]; exact HA3.out, HDK.out⟩
      case measure => simp [intOf]; omega
    · obtain rfl : j = n := by omega
      rw [HE.out.1] at ha
      rw [HE.out.2] at hdk
      have hkl : k = l.length := by
        have e := congrArg List.length hdk
        rw [List.length_drop] at e
        have := ha.sc.le.1
        simp [iputsL] at e
        omega
      subst hkl
      have HA := Lib.hid ha
      clear ha hdk
      go_wp2
      go_ret
      exact ⟨_, rfl, HA.out.r, HA.out.sc, HA.out.g⟩
theorem wgetall_im {w : World} {p : Nat} {l : List UInt8} {xs : List Im} (h : Sc w p l 0) (hT : TbN p w) (hd : l = allL xs) (hz : errL xs = 0) (hn1 : xs.length ≤ 1000) :
    Calls Tryd.prog 65 #[.pointer (some ⟨p, 0, none⟩), .func (.func 66) #[] #[]] w (GotAll p l xs w) := by
  have hp := h.lt
  have HI := Lib.hid (wgetitems_im h hT hd hz hn1)
  unfold GotAll at HI
  clear h hT hd hz hn1
  go_enter Tryd.func65, Tryd.ntmps65
  go_wp2_with (first
    | (go_at_call 93; go_must ((with_reducible refine HI.out.mono ?_); intro e w1 hq; obtain ⟨v, rfl, hr, hs, hg⟩ := hq; have HR := Lib.hid hr; have HS := Lib.hid hs; have HG := Lib.hid hg; have HEn := Lib.hid (end_ok hs); clear hr hs hg))
    | (go_at_call 94; go_must ((with_reducible refine HEn.out.mono ?_); rintro e w2 ⟨rfl, m, rfl⟩)))
  go_ret
  exact ⟨_, rfl, HR.out.past (gb_drewN (gb_refl _ (some p)) m) hp, HS.out.drewN m, gb_trans HG.out (gb_drewN (gb_refl _ _) m)⟩
theorem getall_im {w : World} {p : Nat} {l : List UInt8} {xs : List Im} (h : Sc w p l 0) (hT : TbN p w) (hd : l = allL xs) (hz : errL xs = 0) (hn1 : xs.length ≤ 1000) :
    Calls Tryd.prog 25 #[.pointer (some ⟨p, 0, none⟩)] w (GotAll p l xs w) := by
  have HP := Lib.hid (wgetall_im h hT hd hz hn1)
  unfold GotAll at HP
  clear h hT hd hz hn1
  go_enter Tryd.func25, Tryd.ntmps25
  go_wp2_with (go_at_call 65; go_must ((with_reducible refine HP.out.mono ?_); intro e w1 hq; obtain ⟨v, rfl, hr, hs, hg⟩ := hq; have HR := Lib.hid hr; have HS := Lib.hid hs; have HG := Lib.hid hg; clear hr hs hg))
  go_ret
  exact ⟨_, rfl, HR.out, HS.out, HG.out⟩
theorem cfI2 (cap : Array Value) (w : World) : (callFunc 24 cap).run Tryd.prog w = .ok (.enter 24 cap) w := by kernel_rfl
theorem clos2 {w : World} {p b : Nat} {l : List UInt8} {xs : List Im} (hb : Whole w b 34 #[.pointer (some ⟨p, 0, none⟩)])
    (hG : Calls Tryd.prog 25 #[.pointer (some ⟨p, 0, none⟩)] w (GotAll p l xs w)) :
    Calls Tryd.prog 24 #[.pointer (some ⟨b, 0, none⟩)] w (GotAll p l xs w) := by
  have c0 := hb.cell 0
  simp only [List.getElem?_toArray, List.getElem?_cons_zero] at c0
  have HGt := Lib.hid hG
  clear hb hG
  go_enter Tryd.func24, Tryd.ntmps24
  go_wp2_with (go_at_call 25; go_must ((with_reducible refine HGt.out.mono ?_); intro e w1 hq; obtain ⟨v, rfl, hr, hs, hg⟩ := hq; have HR := Lib.hid hr; have HS := Lib.hid hs; have HG := Lib.hid hg; clear hr hs hg))
  go_ret
  exact ⟨_, rfl, HR.out, HS.out, HG.out⟩
end Go.Proofs.YtihpnplfklbgjaaDoor

/- imports.Of, Count, Place. -/
namespace Go.Proofs.YtihpnplfklbgjaaDoor
open Go.RowKit
set_option linter.unusedVariables false
set_option maxRecDepth 100000

/-- Those of a kind. -/
def ofL (kd : Int) (l : List Im) : List Im := l.filter fun x => decide ((x.kind.toNat : Int) = kd)
theorem ofL_take {kd : Int} {l : List Im} {k : Nat} {x : Im} (h : l[k]? = some x) : ofL kd (l.take (k + 1)) = if (x.kind.toNat : Int) = kd then ofL kd (l.take k) ++ [x] else ofL kd (l.take k) := by
  unfold ofL
  rw [List.take_add_one, h, List.filter_append]
  by_cases e : (x.kind.toNat : Int) = kd <;> simp [e]
theorem ofL_len (kd : Int) (l : List Im) (k : Nat) : (ofL kd (l.take k)).length ≤ k := by
  have h1 : (ofL kd (l.take k)).length ≤ (l.take k).length := List.length_filter_le _ _
  rw [List.length_take] at h1
  omega
/-- The place, among those of a kind, of the first of two names: c of the kind come before the list. -/
def plc (kd : Int) (m n : List UInt8) : List Im → Nat → Option Nat
  | [], _ => none
  | x :: r, c => if (x.kind.toNat : Int) = kd then (if x.mod = m ∧ x.nam = n then some c else plc kd m n r (c + 1)) else plc kd m n r c
theorem plc_drop {kd : Int} {m n : List UInt8} {l : List Im} {k : Nat} {x : Im} (h : l[k]? = some x) (c : Nat) :
    plc kd m n (l.drop k) c = if (x.kind.toNat : Int) = kd then (if x.mod = m ∧ x.nam = n then some c else plc kd m n (l.drop (k + 1)) (c + 1)) else plc kd m n (l.drop (k + 1)) c := by
  obtain ⟨h1, h2⟩ := List.getElem?_eq_some_iff.1 h
  rw [List.drop_eq_getElem_cons h1, h2]
  rfl
def plcV (r : Option Nat) : Value := match r with
  | some c => .tuple #[.int .i64 c, .bool true]
  | none => .tuple #[.int .i64 0, .bool false]
end Go.Proofs.YtihpnplfklbgjaaDoor

/- awake; the walk of ImportsFinds. -/
namespace Go.Proofs.YtihpnplfklbgjaaDoor
open Go.RowKit
set_option linter.unusedVariables false
set_option maxRecDepth 100000

/-- The chapter's example. -/
def imE : Im := ⟨[101, 110, 118], [102], 0, 5, 0, 0, false, 0, false⟩
theorem imE_right : rZ imE = 0 := by decide +kernel
theorem imE_put : iputL imE = [3, 101, 110, 118, 1, 102, 0, 5] := by
  have e3 : lebL (imE.mod.length : Int) = [3] := lebL_sm 3 (by omega) (by omega)
  have e1 : lebL (imE.nam.length : Int) = [1] := lebL_sm 1 (by omega) (by omega)
  have e5 : desL imE = [5] := by
    unfold desL
    rw [if_pos (by rfl)]
    exact lebL_sm 5 (by omega) (by omega)
  unfold iputL nmL
  rw [e3, e1, e5]
  rfl
theorem awake_im (w : World) (hT : TabsU w) : Calls Tryd.prog 18 #[] w fun e w' => e = .returned (.bool true) ∧ Below w.heap.size w w' := by
  have hp := put_im imE w hT (by decide) (by decide)
  obtain ⟨l, hl⟩ : ∃ l : List UInt8, l = [3, 101, 110, 118, 1, 102, 0, 5] := ⟨_, rfl⟩
  have HP := Lib.hid (show Calls Tryd.prog 57 #[.agg #[.string { data := #[101, 110, 118] }, .string { data := #[102] }, .int .u8 0, .int .u32 5, .int .u32 0, .int .u32 0, .bool false, .int .u8 0, .bool false]] w fun e w' => ∃ v, e = .returned (.tuple #[v, .int .i64 0]) ∧ Row w' w.heap.size v l ∧ Below w.heap.size w w' from hp.mono fun e w' ⟨v, h1, h2, h3⟩ => ⟨v, by rw [imE_right] at h1; exact h1, by rw [if_pos imE_right, imE_put] at h2; rw [hl]; exact h2, h3⟩)
  have hcmp : ((S l).toList == [3, 101, 110, 118, 1, 102, 0, 5]) = true := by rw [S_toList, hl]; rfl
  clear hl
  clear hp hT
  go_enter Tryd.func18, Tryd.ntmps18
  go_wp2_with (go_at_call 57; go_must ((with_reducible refine HP.out.mono ?_); intro e w1 h; obtain ⟨v, rfl, hr, hb⟩ := h; obtain ⟨A, c, rfl, hcv⟩ := hr.str; have hcv2 := hcv 9 Tryd.underlying9; have HB := Lib.hid hb; clear hb hr hcv))
  go_ret
  exact ⟨rfl, HB.out⟩
theorem ofL_get {kd : Int} {l : List Im} {k : Nat} {x : Im} (h : l[k]? = some x) (e : (x.kind.toNat : Int) = kd) : (ofL kd l)[(ofL kd (l.take k)).length]? = some x := by
  obtain ⟨h1, h2⟩ := List.getElem?_eq_some_iff.1 h
  have e1 : ofL kd l = ofL kd (l.take k) ++ (x :: ofL kd (l.drop (k + 1))) := by
    conv => lhs; rw [← List.take_append_drop k l, List.drop_eq_getElem_cons h1, h2]
    unfold ofL
    rw [List.filter_append, List.filter_cons_of_pos (by simpa using e)]
  rw [e1, List.getElem?_append_right (Nat.le_refl _), Nat.sub_self]
  rfl
theorem ofL_full (kd : Int) (l : List Im) (k : Nat) : (ofL kd (l.take k)).length ≤ (ofL kd l).length := by
  have e : ofL kd l = ofL kd (l.take k) ++ ofL kd (l.drop k) := by unfold ofL; rw [← List.filter_append, List.take_append_drop]
  rw [e, List.length_append]
  omega
/-- What the law's loop has found so far. -/
def Fnd (kd : Int) (md nm : List UInt8) (l : List Im) (k : Nat) (pl ok : Value) : Prop :=
  (ok = .bool false ∧ pl = .int .i64 0 ∧ plc kd md nm l 0 = plc kd md nm (l.drop k) (ofL kd (l.take k)).length) ∨ (∃ c : Nat, ok = .bool true ∧ pl = .int .i64 c ∧ plc kd md nm l 0 = some c)
theorem tmod_in {a : Int} {n : Nat} (h0 : 0 ≤ a) (hn : 0 < n) : ∃ j : Nat, j < n ∧ Int.tmod a n = j := by
  refine ⟨(a % n).toNat, ?_, ?_⟩
  · have := Int.emod_lt_of_pos a (show (0 : Int) < n by omega)
    have := Int.emod_nonneg a (show (n : Int) ≠ 0 by omega)
    omega
  · rw [Int.tmod_eq_emod_of_nonneg h0]
    have := Int.emod_nonneg a (show (n : Int) ≠ 0 by omega)
    omega
end Go.Proofs.YtihpnplfklbgjaaDoor

/- creelref10.Count, name, check. (By gen/genRef.py.) -/
namespace Go.Proofs.YtihpnplfklbgjaaDoor
open Go.RowKit Go.Lib
set_option linter.unusedVariables false
set_option maxRecDepth 100000

theorem rcount_im (n : Nat) (w : World) (hn : n ≤ 1000000) : Calls Tryd.prog 19 #[.int .i64 n] w (Strs (lebL n) w) := by
  have HC := Lib.hid (fun w => count_any (n : Int) w (by omega) (by omega))
  generalize lebL (n : Int) = y at *
  go_enter Tryd.func19, Tryd.ntmps19
  go_wp2_with (go_at_call 56; go_must ((with_reducible refine (HC.out _).mono ?_); rintro e w1 ⟨rfl, hb⟩; have HB := Lib.hid hb; clear hb))
  go_ret
  exact ⟨rfl, HB.out⟩
theorem rname_im (s : List UInt8) (w : World) (hs : s.length ≤ 100000) : Calls Tryd.prog 60 #[.string (S s)] w (Strs (nmL s) w) := by
  have HC := Lib.hid (fun w => count_any (s.length : Int) w (by omega) (by omega))
  have hlen := lebL_len (s.length : Int) (by omega)
  have hsz := S_size s
  unfold nmL
  generalize lebL (s.length : Int) = y at *
  have HA := Lib.hid (S_append y s)
  have sy := S_size y
  have q1 : ¬ 9223372036854775807 < (S y).size + s.length := by omega
  clear sy hlen
  go_enter Tryd.func60, Tryd.ntmps60
  go_wp2_with (go_at_call 56; go_must ((with_reducible refine (HC.out _).mono ?_); rintro e w1 ⟨rfl, hb⟩; have HB := Lib.hid hb; clear hb))
  go_ret
  exact ⟨congrArg (fun b => Ending.returned (Value.string b)) HA.out, HB.out⟩
theorem rcheck_im (s : List UInt8) (w : World) (hs : s.length ≤ 1000000) : Calls Tryd.prog 58 #[.string (S s)] w fun e w' => e = .returned (.int .i64 (checkZ s)) ∧ Below w.heap.size w w' := by
  have hsz := S_size s
  by_cases h2 : 200 < s.length
  · have e : checkZ s = 13 := by unfold checkZ; rw [if_pos h2]
    rw [e]
    have hs2 : (200 : Int) < (s.length : Int) := by omega
    clear e h2
    go_enter Tryd.func58, Tryd.ntmps58
    go_wp2
    go_ret
    exact ⟨rfl, Below.refl _ _⟩
  · have hd : decide ((200 : Int) < (s.length : Int)) = false := decide_eq_false (by omega)
    have HC := Lib.hid (fun w => refCount_any s w hs)
    by_cases hv : validD s = true
    · have e : checkZ s = 0 := by unfold checkZ; rw [if_neg h2, if_pos hv]
      rw [e]
      have hc : countZ s = (runeCountL s : Int) := by unfold countZ; rw [if_pos hv]
      have hd2 : decide (countZ s < 0) = false := decide_eq_false (by rw [hc]; omega)
      clear e h2 hv hc
      generalize countZ s = z at *
      go_enter Tryd.func58, Tryd.ntmps58
      go_wp2_with (go_at_call 36; go_must ((with_reducible refine (HC.out _).mono ?_); rintro e w1 ⟨rfl, hb⟩; have HB := Lib.hid hb; clear hb))
      go_ret
      exact ⟨rfl, HB.out⟩
    · have e : checkZ s = 4 := by unfold checkZ; rw [if_neg h2, if_neg hv]
      rw [e]
      have hc : countZ s = -1 := by unfold countZ; rw [if_neg hv]
      have hd2 : decide (countZ s < 0) = true := decide_eq_true (by rw [hc]; omega)
      clear e h2 hv hc
      generalize countZ s = z at *
      go_enter Tryd.func58, Tryd.ntmps58
      go_wp2_with (go_at_call 36; go_must ((with_reducible refine (HC.out _).mono ?_); rintro e w1 ⟨rfl, hb⟩; have HB := Lib.hid hb; clear hb))
      go_ret
      exact ⟨rfl, HB.out⟩
end Go.Proofs.YtihpnplfklbgjaaDoor

/- creelref10.Right. (By gen/genRef.py.) -/
namespace Go.Proofs.YtihpnplfklbgjaaDoor
open Go.RowKit Go.Lib
set_option linter.unusedVariables false
set_option maxRecDepth 100000

theorem z32 {a : UInt32} : ((a.toNat : Int) = 0) ↔ a = 0 := ⟨fun h => i32_of (b := 0) h, fun h => by subst h; rfl⟩
theorem z8 {a : UInt8} : ((a.toNat : Int) = 0) ↔ a = 0 := ⟨fun h => i8_of (b := 0) h, fun h => by subst h; rfl⟩
theorem neq_lim (a b : UInt32) (c : Bool) (w : World) : (binOp BinOp.neq 48 (.agg #[.int .u32 a.toNat, .int .u32 b.toNat, .bool c]) (.agg #[.int .u32 0, .int .u32 0, .bool false])).run Tryd.prog w = .ok (.bool (!decide (a = 0 ∧ b = 0 ∧ c = false))) w := by
  by_cases h1 : a = 0
  · have e1 := z32.2 h1
    by_cases h2 : b = 0
    · have e2 := z32.2 h2
      cases c
      · rw [decide_eq_true ⟨h1, h2, rfl⟩]
        clear h1 h2
        go_simp
      · rw [decide_eq_false (fun h => by cases h.2.2)]
        clear h1 h2
        go_simp
    · have e2 : ¬ (b.toNat : Int) = 0 := fun h => h2 (z32.1 h)
      rw [decide_eq_false (fun h => h2 h.2.1)]
      clear h1 h2
      go_simp
      intro q; omega
  · have e1 : ¬ (a.toNat : Int) = 0 := fun h => h1 (z32.1 h)
    rw [decide_eq_false (fun h => h1 h.1)]
    clear h1
    go_simp
    intro q; omega
theorem neq_glo (a : UInt8) (c : Bool) (w : World) : (binOp BinOp.neq 50 (.agg #[.int .u8 a.toNat, .bool c]) (.agg #[.int .u8 0, .bool false])).run Tryd.prog w = .ok (.bool (!decide (a = 0 ∧ c = false))) w := by
  by_cases h1 : a = 0
  · have e1 := z8.2 h1
    cases c
    · rw [decide_eq_true ⟨h1, rfl⟩]
      clear h1
      go_simp
    · rw [decide_eq_false (fun h => by cases h.2)]
      clear h1
      go_simp
  · have e1 : ¬ (a.toNat : Int) = 0 := fun h => h1 (z8.1 h)
    rw [decide_eq_false (fun h => h1 h.1)]
    clear h1
    go_simp
    intro q; omega
theorem ofK_0 {x : Im} (h : x.kind.toNat = 0) : x = ofK x ↔ (x.mn = 0 ∧ x.mx = 0 ∧ x.bd = false) ∧ x.gt = 0 ∧ x.gm = false := by
  unfold ofK
  rw [if_pos h]
  cases x
  simp [and_assoc]
theorem ofK_1 {x : Im} (h0 : ¬ x.kind.toNat = 0) (h : x.kind.toNat = 1 ∨ x.kind.toNat = 2) : x = ofK x ↔ x.typ = 0 ∧ x.gt = 0 ∧ x.gm = false := by
  unfold ofK
  rw [if_neg h0, if_pos h]
  cases x
  simp
theorem ofK_3 {x : Im} (h0 : x.kind.toNat = 3) : x = ofK x ↔ x.typ = 0 ∧ (x.mn = 0 ∧ x.mx = 0 ∧ x.bd = false) := by
  unfold ofK
  rw [if_neg (by omega), if_neg (by omega), if_pos h0]
  cases x
  simp
set_option maxHeartbeats 8000000 in
theorem rright_ok (x : Im) (w : World) (h1 : x.mod.length ≤ 1000000) (h2 : x.nam.length ≤ 1000000) (z1 : checkZ x.mod = 0) (z2 : checkZ x.nam = 0) (k3 : ¬ 3 < x.kind.toNat) :
    Calls Tryd.prog 20 #[imV x] w fun e w' => e = .returned (.int .i64 (rZ x)) ∧ Below w.heap.size w w' := by
  have HC1 := Lib.hid (rcheck_im x.mod (w.alloc (.cells (imC x) 52)) h1)
  have HC2 := Lib.hid (fun W => rcheck_im x.nam W h2)
  rw [z1] at HC1
  rw [z2] at HC2
  have H0 := Lib.hid (bx_start w x)
  have hr : rZ x = if x ≠ ofK x ∨ (x.bd = false ∧ x.mx.toNat ≠ 0) then 1 else if x.kind.toNat = 3 then valueZ x.gt.toNat else 0 := by
    unfold rZ; rw [if_neg (by simpa using z1), if_neg (by simpa using z2), if_neg k3]
  rw [hr]
  have d3 : decide ((3 : Int) < (x.kind.toNat : Int)) = false := decide_eq_false (by omega)
  have hml : ∀ {b : Bool}, decide (x.mn = 0 ∧ x.mx = 0 ∧ x.bd = false) = b → ∀ W, (binOp BinOp.neq 48 (.agg #[.int .u32 x.mn.toNat, .int .u32 x.mx.toNat, .bool x.bd]) (.agg #[.int .u32 0, .int .u32 0, .bool false])).run Tryd.prog W = .ok (.bool (!b)) W := fun h W => by rw [neq_lim, h]
  have hmg : ∀ {b : Bool}, decide (x.gt = 0 ∧ x.gm = false) = b → ∀ W, (binOp BinOp.neq 50 (.agg #[.int .u8 x.gt.toNat, .bool x.gm]) (.agg #[.int .u8 0, .bool false])).run Tryd.prog W = .ok (.bool (!b)) W := fun h W => by rw [neq_glo, h]
  have hz0 : ∀ W, (binOp BinOp.neq 48 (.agg #[.int .u32 0, .int .u32 0, .bool false]) (.agg #[.int .u32 0, .int .u32 0, .bool false])).run Tryd.prog W = .ok (.bool false) W := fun W => neq_lim 0 0 false W
  have hz1 : ∀ W, (binOp BinOp.neq 50 (.agg #[.int .u8 0, .bool false]) (.agg #[.int .u8 0, .bool false])).run Tryd.prog W = .ok (.bool false) W := fun W => neq_glo 0 false W
  clear z1 z2 h1 h2 hr
  by_cases q0 : x.kind.toNat = 0
  · have b0 : ((x.kind.toNat : Int) == 0) = true := be_of (by simp; omega)
    have b1 : ((x.kind.toNat : Int) == 1) = false := be_of (by simp; omega)
    have b2 : ((x.kind.toNat : Int) == 2) = false := be_of (by simp; omega)
    have b3 : ((x.kind.toNat : Int) == 3) = false := be_of (by simp; omega)
    have ho := ofK_0 q0
    by_cases eL : x.mn = 0 ∧ x.mx = 0 ∧ x.bd = false
    · have hL : ∀ W, _ := hml (decide_eq_true eL)
      by_cases eG : x.gt = 0 ∧ x.gm = false
      · have hG : ∀ W, _ := hmg (decide_eq_true eG)
        rw [if_neg (fun h => h.elim (fun h => h (ho.2 ⟨eL, eG⟩)) (fun h => h.2 (by rw [eL.2.1]; rfl))), if_neg (by omega)]
        have hm : ((x.mx.toNat : Int) != 0) = false := nb_of (by rw [eL.2.1]; rfl)
        have HBD := eL.2.2
        have HBE := Lib.hid HBD
        clear HBD eL eG ho q0 k3 hml hmg
        go_enter Tryd.func20, Tryd.ntmps20
        go_wp2_with (first
          | (go_at_call 58; go_must (first
            | ((with_reducible refine HC1.out.mono ?_); rintro e w1 ⟨rfl, hb⟩; have H1 := Lib.hid (bx_on H0.out hb); have k1 := H1.out.1.1.cell 1; simp only [List.getElem?_toArray, List.getElem?_cons_zero, List.getElem?_cons_succ] at k1; clear hb)
            | ((with_reducible refine (HC2.out _).mono ?_); rintro e w2 ⟨rfl, hb⟩; have H2 := Lib.hid (bx_on H1.out hb); clear hb k1; obtain ⟨c0, c1, c2, c3, c4, c5, c6, c7, c8⟩ := H2.out.1.1.im; have a2 : ∀ o, (w2.alloc o).cell? ⟨w.heap.size, 2, none⟩ = some (.int .u8 x.kind.toNat) := (fun o => (H2.out.1.1.alloc o).cell 2); have a5 : ∀ o, (w2.alloc o).cell? ⟨w.heap.size, 5, none⟩ = some (.int .u32 x.mx.toNat) := (fun o => (H2.out.1.1.alloc o).cell 5); have a6 : ∀ o, (w2.alloc o).cell? ⟨w.heap.size, 6, none⟩ = some (.bool x.bd) := (fun o => (H2.out.1.1.alloc o).cell 6); have a7 : ∀ o, (w2.alloc o).cell? ⟨w.heap.size, 7, none⟩ = some (.int .u8 x.gt.toNat) := (fun o => (H2.out.1.1.alloc o).cell 7)))))
        all_goals
          go_ret
          exact ⟨rfl, (bx_bel H2.out).alloc (bx_bel H2.out).size _⟩
      · have hG : ∀ W, _ := hmg (decide_eq_false eG)
        rw [if_pos (.inl (fun h => eG (ho.1 h).2))]
        clear eL eG ho q0 k3 hml hmg
        go_enter Tryd.func20, Tryd.ntmps20
        go_wp2_with (first
          | (go_at_call 58; go_must (first
            | ((with_reducible refine HC1.out.mono ?_); rintro e w1 ⟨rfl, hb⟩; have H1 := Lib.hid (bx_on H0.out hb); have k1 := H1.out.1.1.cell 1; simp only [List.getElem?_toArray, List.getElem?_cons_zero, List.getElem?_cons_succ] at k1; clear hb)
            | ((with_reducible refine (HC2.out _).mono ?_); rintro e w2 ⟨rfl, hb⟩; have H2 := Lib.hid (bx_on H1.out hb); clear hb k1; obtain ⟨c0, c1, c2, c3, c4, c5, c6, c7, c8⟩ := H2.out.1.1.im; have a2 : ∀ o, (w2.alloc o).cell? ⟨w.heap.size, 2, none⟩ = some (.int .u8 x.kind.toNat) := (fun o => (H2.out.1.1.alloc o).cell 2); have a5 : ∀ o, (w2.alloc o).cell? ⟨w.heap.size, 5, none⟩ = some (.int .u32 x.mx.toNat) := (fun o => (H2.out.1.1.alloc o).cell 5); have a6 : ∀ o, (w2.alloc o).cell? ⟨w.heap.size, 6, none⟩ = some (.bool x.bd) := (fun o => (H2.out.1.1.alloc o).cell 6); have a7 : ∀ o, (w2.alloc o).cell? ⟨w.heap.size, 7, none⟩ = some (.int .u8 x.gt.toNat) := (fun o => (H2.out.1.1.alloc o).cell 7)))))
        all_goals
          go_ret
          exact ⟨rfl, (bx_bel H2.out).alloc (bx_bel H2.out).size _⟩
    · have hL : ∀ W, _ := hml (decide_eq_false eL)
      rw [if_pos (.inl (fun h => eL (ho.1 h).1))]
      clear eL ho q0 k3 hml hmg
      go_enter Tryd.func20, Tryd.ntmps20
      go_wp2_with (first
        | (go_at_call 58; go_must (first
          | ((with_reducible refine HC1.out.mono ?_); rintro e w1 ⟨rfl, hb⟩; have H1 := Lib.hid (bx_on H0.out hb); have k1 := H1.out.1.1.cell 1; simp only [List.getElem?_toArray, List.getElem?_cons_zero, List.getElem?_cons_succ] at k1; clear hb)
          | ((with_reducible refine (HC2.out _).mono ?_); rintro e w2 ⟨rfl, hb⟩; have H2 := Lib.hid (bx_on H1.out hb); clear hb k1; obtain ⟨c0, c1, c2, c3, c4, c5, c6, c7, c8⟩ := H2.out.1.1.im; have a2 : ∀ o, (w2.alloc o).cell? ⟨w.heap.size, 2, none⟩ = some (.int .u8 x.kind.toNat) := (fun o => (H2.out.1.1.alloc o).cell 2); have a5 : ∀ o, (w2.alloc o).cell? ⟨w.heap.size, 5, none⟩ = some (.int .u32 x.mx.toNat) := (fun o => (H2.out.1.1.alloc o).cell 5); have a6 : ∀ o, (w2.alloc o).cell? ⟨w.heap.size, 6, none⟩ = some (.bool x.bd) := (fun o => (H2.out.1.1.alloc o).cell 6); have a7 : ∀ o, (w2.alloc o).cell? ⟨w.heap.size, 7, none⟩ = some (.int .u8 x.gt.toNat) := (fun o => (H2.out.1.1.alloc o).cell 7)))))
      all_goals
        go_ret
        exact ⟨rfl, (bx_bel H2.out).alloc (bx_bel H2.out).size _⟩
  have b0 : ((x.kind.toNat : Int) == 0) = false := be_of (by simp; omega)
  by_cases q3 : x.kind.toNat = 3
  · have b1 : ((x.kind.toNat : Int) == 1) = false := be_of (by simp; omega)
    have b2 : ((x.kind.toNat : Int) == 2) = false := be_of (by simp; omega)
    have b3 : ((x.kind.toNat : Int) == 3) = true := be_of (by simp; omega)
    have ho := ofK_3 q3
    by_cases eT : x.typ = 0
    · have hty : ((x.typ.toNat : Int) != 0) = false := nb_of (by rw [eT]; rfl)
      by_cases eL : x.mn = 0 ∧ x.mx = 0 ∧ x.bd = false
      · have hL : ∀ W, _ := hml (decide_eq_true eL)
        rw [if_neg (fun h => h.elim (fun h => h (ho.2 ⟨eT, eL⟩)) (fun h => h.2 (by rw [eL.2.1]; rfl))), if_pos q3]
        have hm : ((x.mx.toNat : Int) != 0) = false := nb_of (by rw [eL.2.1]; rfl)
        have HV := Lib.hid (fun W => refValue_any (x.gt.toNat : Int) W)
        have wg : wrap64 (x.gt.toNat : Int) = x.gt.toNat := by have := u8_le x.gt; unfold wrap64; omega
        clear eL eT ho q0 q3 k3 hml hmg
        go_enter Tryd.func20, Tryd.ntmps20
        go_wp2_with (first
          | (go_at_call 59; go_must ((with_reducible refine (HV.out _).mono ?_); rintro e w4 ⟨rfl, rfl⟩))
          | (go_at_call 58; go_must (first
            | ((with_reducible refine HC1.out.mono ?_); rintro e w1 ⟨rfl, hb⟩; have H1 := Lib.hid (bx_on H0.out hb); have k1 := H1.out.1.1.cell 1; simp only [List.getElem?_toArray, List.getElem?_cons_zero, List.getElem?_cons_succ] at k1; clear hb)
            | ((with_reducible refine (HC2.out _).mono ?_); rintro e w2 ⟨rfl, hb⟩; have H2 := Lib.hid (bx_on H1.out hb); clear hb k1; obtain ⟨c0, c1, c2, c3, c4, c5, c6, c7, c8⟩ := H2.out.1.1.im; have a2 : ∀ o, (w2.alloc o).cell? ⟨w.heap.size, 2, none⟩ = some (.int .u8 x.kind.toNat) := (fun o => (H2.out.1.1.alloc o).cell 2); have a5 : ∀ o, (w2.alloc o).cell? ⟨w.heap.size, 5, none⟩ = some (.int .u32 x.mx.toNat) := (fun o => (H2.out.1.1.alloc o).cell 5); have a6 : ∀ o, (w2.alloc o).cell? ⟨w.heap.size, 6, none⟩ = some (.bool x.bd) := (fun o => (H2.out.1.1.alloc o).cell 6); have a7 : ∀ o, (w2.alloc o).cell? ⟨w.heap.size, 7, none⟩ = some (.int .u8 x.gt.toNat) := (fun o => (H2.out.1.1.alloc o).cell 7)))))
        all_goals
          go_ret
          exact ⟨rfl, (bx_bel H2.out).alloc (bx_bel H2.out).size _⟩
      · have hL : ∀ W, _ := hml (decide_eq_false eL)
        rw [if_pos (.inl (fun h => eL (ho.1 h).2))]
        clear eL eT ho q0 q3 k3 hml hmg
        go_enter Tryd.func20, Tryd.ntmps20
        go_wp2_with (first
          | (go_at_call 58; go_must (first
            | ((with_reducible refine HC1.out.mono ?_); rintro e w1 ⟨rfl, hb⟩; have H1 := Lib.hid (bx_on H0.out hb); have k1 := H1.out.1.1.cell 1; simp only [List.getElem?_toArray, List.getElem?_cons_zero, List.getElem?_cons_succ] at k1; clear hb)
            | ((with_reducible refine (HC2.out _).mono ?_); rintro e w2 ⟨rfl, hb⟩; have H2 := Lib.hid (bx_on H1.out hb); clear hb k1; obtain ⟨c0, c1, c2, c3, c4, c5, c6, c7, c8⟩ := H2.out.1.1.im; have a2 : ∀ o, (w2.alloc o).cell? ⟨w.heap.size, 2, none⟩ = some (.int .u8 x.kind.toNat) := (fun o => (H2.out.1.1.alloc o).cell 2); have a5 : ∀ o, (w2.alloc o).cell? ⟨w.heap.size, 5, none⟩ = some (.int .u32 x.mx.toNat) := (fun o => (H2.out.1.1.alloc o).cell 5); have a6 : ∀ o, (w2.alloc o).cell? ⟨w.heap.size, 6, none⟩ = some (.bool x.bd) := (fun o => (H2.out.1.1.alloc o).cell 6); have a7 : ∀ o, (w2.alloc o).cell? ⟨w.heap.size, 7, none⟩ = some (.int .u8 x.gt.toNat) := (fun o => (H2.out.1.1.alloc o).cell 7)))))
        all_goals
          go_ret
          exact ⟨rfl, (bx_bel H2.out).alloc (bx_bel H2.out).size _⟩
    · have hty : ((x.typ.toNat : Int) != 0) = true := nb_of (by simp; exact fun h => eT (z32.1 (by omega)))
      rw [if_pos (.inl (fun h => eT (ho.1 h).1))]
      clear eT ho q0 q3 k3 hml hmg
      go_enter Tryd.func20, Tryd.ntmps20
      go_wp2_with (first
        | (go_at_call 58; go_must (first
          | ((with_reducible refine HC1.out.mono ?_); rintro e w1 ⟨rfl, hb⟩; have H1 := Lib.hid (bx_on H0.out hb); have k1 := H1.out.1.1.cell 1; simp only [List.getElem?_toArray, List.getElem?_cons_zero, List.getElem?_cons_succ] at k1; clear hb)
          | ((with_reducible refine (HC2.out _).mono ?_); rintro e w2 ⟨rfl, hb⟩; have H2 := Lib.hid (bx_on H1.out hb); clear hb k1; obtain ⟨c0, c1, c2, c3, c4, c5, c6, c7, c8⟩ := H2.out.1.1.im; have a2 : ∀ o, (w2.alloc o).cell? ⟨w.heap.size, 2, none⟩ = some (.int .u8 x.kind.toNat) := (fun o => (H2.out.1.1.alloc o).cell 2); have a5 : ∀ o, (w2.alloc o).cell? ⟨w.heap.size, 5, none⟩ = some (.int .u32 x.mx.toNat) := (fun o => (H2.out.1.1.alloc o).cell 5); have a6 : ∀ o, (w2.alloc o).cell? ⟨w.heap.size, 6, none⟩ = some (.bool x.bd) := (fun o => (H2.out.1.1.alloc o).cell 6); have a7 : ∀ o, (w2.alloc o).cell? ⟨w.heap.size, 7, none⟩ = some (.int .u8 x.gt.toNat) := (fun o => (H2.out.1.1.alloc o).cell 7)))))
      all_goals
        go_ret
        exact ⟨rfl, (bx_bel H2.out).alloc (bx_bel H2.out).size _⟩
  have b3 : ((x.kind.toNat : Int) == 3) = false := be_of (by simp; omega)
  have q12 : x.kind.toNat = 1 ∨ x.kind.toNat = 2 := by omega
  have hb1 : ∃ b1 b2, ((x.kind.toNat : Int) == 1) = b1 ∧ ((x.kind.toNat : Int) == 2) = b2 ∧ (b1 = true ∨ (b1 = false ∧ b2 = true)) := by
    rcases q12 with q | q
    · exact ⟨true, false, be_of (by simp; omega), be_of (by simp; omega), .inl rfl⟩
    · exact ⟨false, true, be_of (by simp; omega), be_of (by simp; omega), .inr ⟨rfl, rfl⟩⟩
  have ho := ofK_1 q0 q12
  clear q12
  obtain ⟨k1, k2, b1, b2, hk12⟩ := hb1
  have hf : ∀ (P : Prop) [Decidable P] (h : ¬ P), (if x ≠ ofK x ∨ (x.bd = false ∧ x.mx.toNat ≠ 0) then (1 : Int) else if x.kind.toNat = 3 then valueZ x.gt.toNat else 0) = if x ≠ ofK x ∨ (x.bd = false ∧ x.mx.toNat ≠ 0) then 1 else 0 := fun P _ h => by rw [if_neg q3]
  rw [hf False id]
  clear hf
  by_cases eT : x.typ = 0
  · have hty : ((x.typ.toNat : Int) != 0) = false := nb_of (by rw [eT]; rfl)
    by_cases eG : x.gt = 0 ∧ x.gm = false
    · have hG : ∀ W, _ := hmg (decide_eq_true eG)
      by_cases eB : x.bd = false
      · by_cases eM : x.mx.toNat = 0
        · rw [if_neg (fun h => h.elim (fun h => h (ho.2 ⟨eT, eG⟩)) (fun h => h.2 eM))]
          have hm : ((x.mx.toNat : Int) != 0) = false := nb_of (by simp; omega)
          have HBD := Lib.hid eB
          clear eB eM eG eT ho q0 q3 k3 hml hmg
          rcases hk12 with rfl | ⟨rfl, rfl⟩
          · go_enter Tryd.func20, Tryd.ntmps20
            go_wp2_with (first
              | (go_at_call 58; go_must (first
                | ((with_reducible refine HC1.out.mono ?_); rintro e w1 ⟨rfl, hb⟩; have H1 := Lib.hid (bx_on H0.out hb); have k1 := H1.out.1.1.cell 1; simp only [List.getElem?_toArray, List.getElem?_cons_zero, List.getElem?_cons_succ] at k1; clear hb)
                | ((with_reducible refine (HC2.out _).mono ?_); rintro e w2 ⟨rfl, hb⟩; have H2 := Lib.hid (bx_on H1.out hb); clear hb k1; obtain ⟨c0, c1, c2, c3, c4, c5, c6, c7, c8⟩ := H2.out.1.1.im; have a2 : ∀ o, (w2.alloc o).cell? ⟨w.heap.size, 2, none⟩ = some (.int .u8 x.kind.toNat) := (fun o => (H2.out.1.1.alloc o).cell 2); have a5 : ∀ o, (w2.alloc o).cell? ⟨w.heap.size, 5, none⟩ = some (.int .u32 x.mx.toNat) := (fun o => (H2.out.1.1.alloc o).cell 5); have a6 : ∀ o, (w2.alloc o).cell? ⟨w.heap.size, 6, none⟩ = some (.bool x.bd) := (fun o => (H2.out.1.1.alloc o).cell 6); have a7 : ∀ o, (w2.alloc o).cell? ⟨w.heap.size, 7, none⟩ = some (.int .u8 x.gt.toNat) := (fun o => (H2.out.1.1.alloc o).cell 7); have hbd := HBD.out))))
            all_goals
              go_ret
              exact ⟨rfl, (bx_bel H2.out).alloc (bx_bel H2.out).size _⟩
          · go_enter Tryd.func20, Tryd.ntmps20
            go_wp2_with (first
              | (go_at_call 58; go_must (first
                | ((with_reducible refine HC1.out.mono ?_); rintro e w1 ⟨rfl, hb⟩; have H1 := Lib.hid (bx_on H0.out hb); have k1 := H1.out.1.1.cell 1; simp only [List.getElem?_toArray, List.getElem?_cons_zero, List.getElem?_cons_succ] at k1; clear hb)
                | ((with_reducible refine (HC2.out _).mono ?_); rintro e w2 ⟨rfl, hb⟩; have H2 := Lib.hid (bx_on H1.out hb); clear hb k1; obtain ⟨c0, c1, c2, c3, c4, c5, c6, c7, c8⟩ := H2.out.1.1.im; have a2 : ∀ o, (w2.alloc o).cell? ⟨w.heap.size, 2, none⟩ = some (.int .u8 x.kind.toNat) := (fun o => (H2.out.1.1.alloc o).cell 2); have a5 : ∀ o, (w2.alloc o).cell? ⟨w.heap.size, 5, none⟩ = some (.int .u32 x.mx.toNat) := (fun o => (H2.out.1.1.alloc o).cell 5); have a6 : ∀ o, (w2.alloc o).cell? ⟨w.heap.size, 6, none⟩ = some (.bool x.bd) := (fun o => (H2.out.1.1.alloc o).cell 6); have a7 : ∀ o, (w2.alloc o).cell? ⟨w.heap.size, 7, none⟩ = some (.int .u8 x.gt.toNat) := (fun o => (H2.out.1.1.alloc o).cell 7); have hbd := HBD.out))))
            all_goals
              go_ret
              exact ⟨rfl, (bx_bel H2.out).alloc (bx_bel H2.out).size _⟩
        · rw [if_pos (.inr ⟨eB, eM⟩)]
          have hm : ((x.mx.toNat : Int) != 0) = true := nb_of (by simp; omega)
          have HBD := Lib.hid eB
          clear eB eM eG eT ho q0 q3 k3 hml hmg
          rcases hk12 with rfl | ⟨rfl, rfl⟩
          · go_enter Tryd.func20, Tryd.ntmps20
            go_wp2_with (first
              | (go_at_call 58; go_must (first
                | ((with_reducible refine HC1.out.mono ?_); rintro e w1 ⟨rfl, hb⟩; have H1 := Lib.hid (bx_on H0.out hb); have k1 := H1.out.1.1.cell 1; simp only [List.getElem?_toArray, List.getElem?_cons_zero, List.getElem?_cons_succ] at k1; clear hb)
                | ((with_reducible refine (HC2.out _).mono ?_); rintro e w2 ⟨rfl, hb⟩; have H2 := Lib.hid (bx_on H1.out hb); clear hb k1; obtain ⟨c0, c1, c2, c3, c4, c5, c6, c7, c8⟩ := H2.out.1.1.im; have a2 : ∀ o, (w2.alloc o).cell? ⟨w.heap.size, 2, none⟩ = some (.int .u8 x.kind.toNat) := (fun o => (H2.out.1.1.alloc o).cell 2); have a5 : ∀ o, (w2.alloc o).cell? ⟨w.heap.size, 5, none⟩ = some (.int .u32 x.mx.toNat) := (fun o => (H2.out.1.1.alloc o).cell 5); have a6 : ∀ o, (w2.alloc o).cell? ⟨w.heap.size, 6, none⟩ = some (.bool x.bd) := (fun o => (H2.out.1.1.alloc o).cell 6); have a7 : ∀ o, (w2.alloc o).cell? ⟨w.heap.size, 7, none⟩ = some (.int .u8 x.gt.toNat) := (fun o => (H2.out.1.1.alloc o).cell 7); have hbd := HBD.out))))
            all_goals
              go_ret
              exact ⟨rfl, (bx_bel H2.out).alloc (bx_bel H2.out).size _⟩
          · go_enter Tryd.func20, Tryd.ntmps20
            go_wp2_with (first
              | (go_at_call 58; go_must (first
                | ((with_reducible refine HC1.out.mono ?_); rintro e w1 ⟨rfl, hb⟩; have H1 := Lib.hid (bx_on H0.out hb); have k1 := H1.out.1.1.cell 1; simp only [List.getElem?_toArray, List.getElem?_cons_zero, List.getElem?_cons_succ] at k1; clear hb)
                | ((with_reducible refine (HC2.out _).mono ?_); rintro e w2 ⟨rfl, hb⟩; have H2 := Lib.hid (bx_on H1.out hb); clear hb k1; obtain ⟨c0, c1, c2, c3, c4, c5, c6, c7, c8⟩ := H2.out.1.1.im; have a2 : ∀ o, (w2.alloc o).cell? ⟨w.heap.size, 2, none⟩ = some (.int .u8 x.kind.toNat) := (fun o => (H2.out.1.1.alloc o).cell 2); have a5 : ∀ o, (w2.alloc o).cell? ⟨w.heap.size, 5, none⟩ = some (.int .u32 x.mx.toNat) := (fun o => (H2.out.1.1.alloc o).cell 5); have a6 : ∀ o, (w2.alloc o).cell? ⟨w.heap.size, 6, none⟩ = some (.bool x.bd) := (fun o => (H2.out.1.1.alloc o).cell 6); have a7 : ∀ o, (w2.alloc o).cell? ⟨w.heap.size, 7, none⟩ = some (.int .u8 x.gt.toNat) := (fun o => (H2.out.1.1.alloc o).cell 7); have hbd := HBD.out))))
            all_goals
              go_ret
              exact ⟨rfl, (bx_bel H2.out).alloc (bx_bel H2.out).size _⟩
      · rw [if_neg (fun h => h.elim (fun h => h (ho.2 ⟨eT, eG⟩)) (fun h => eB h.1))]
        have HBD := Lib.hid (show x.bd = true by simpa using eB)
        clear eB eG eT ho q0 q3 k3 hml hmg
        rcases hk12 with rfl | ⟨rfl, rfl⟩
        · go_enter Tryd.func20, Tryd.ntmps20
          go_wp2_with (first
            | (go_at_call 58; go_must (first
              | ((with_reducible refine HC1.out.mono ?_); rintro e w1 ⟨rfl, hb⟩; have H1 := Lib.hid (bx_on H0.out hb); have k1 := H1.out.1.1.cell 1; simp only [List.getElem?_toArray, List.getElem?_cons_zero, List.getElem?_cons_succ] at k1; clear hb)
              | ((with_reducible refine (HC2.out _).mono ?_); rintro e w2 ⟨rfl, hb⟩; have H2 := Lib.hid (bx_on H1.out hb); clear hb k1; obtain ⟨c0, c1, c2, c3, c4, c5, c6, c7, c8⟩ := H2.out.1.1.im; have a2 : ∀ o, (w2.alloc o).cell? ⟨w.heap.size, 2, none⟩ = some (.int .u8 x.kind.toNat) := (fun o => (H2.out.1.1.alloc o).cell 2); have a5 : ∀ o, (w2.alloc o).cell? ⟨w.heap.size, 5, none⟩ = some (.int .u32 x.mx.toNat) := (fun o => (H2.out.1.1.alloc o).cell 5); have a6 : ∀ o, (w2.alloc o).cell? ⟨w.heap.size, 6, none⟩ = some (.bool x.bd) := (fun o => (H2.out.1.1.alloc o).cell 6); have a7 : ∀ o, (w2.alloc o).cell? ⟨w.heap.size, 7, none⟩ = some (.int .u8 x.gt.toNat) := (fun o => (H2.out.1.1.alloc o).cell 7); have hbd := HBD.out))))
          all_goals
            go_ret
            exact ⟨rfl, (bx_bel H2.out).alloc (bx_bel H2.out).size _⟩
        · go_enter Tryd.func20, Tryd.ntmps20
          go_wp2_with (first
            | (go_at_call 58; go_must (first
              | ((with_reducible refine HC1.out.mono ?_); rintro e w1 ⟨rfl, hb⟩; have H1 := Lib.hid (bx_on H0.out hb); have k1 := H1.out.1.1.cell 1; simp only [List.getElem?_toArray, List.getElem?_cons_zero, List.getElem?_cons_succ] at k1; clear hb)
              | ((with_reducible refine (HC2.out _).mono ?_); rintro e w2 ⟨rfl, hb⟩; have H2 := Lib.hid (bx_on H1.out hb); clear hb k1; obtain ⟨c0, c1, c2, c3, c4, c5, c6, c7, c8⟩ := H2.out.1.1.im; have a2 : ∀ o, (w2.alloc o).cell? ⟨w.heap.size, 2, none⟩ = some (.int .u8 x.kind.toNat) := (fun o => (H2.out.1.1.alloc o).cell 2); have a5 : ∀ o, (w2.alloc o).cell? ⟨w.heap.size, 5, none⟩ = some (.int .u32 x.mx.toNat) := (fun o => (H2.out.1.1.alloc o).cell 5); have a6 : ∀ o, (w2.alloc o).cell? ⟨w.heap.size, 6, none⟩ = some (.bool x.bd) := (fun o => (H2.out.1.1.alloc o).cell 6); have a7 : ∀ o, (w2.alloc o).cell? ⟨w.heap.size, 7, none⟩ = some (.int .u8 x.gt.toNat) := (fun o => (H2.out.1.1.alloc o).cell 7); have hbd := HBD.out))))
          all_goals
            go_ret
            exact ⟨rfl, (bx_bel H2.out).alloc (bx_bel H2.out).size _⟩
    · have hG : ∀ W, _ := hmg (decide_eq_false eG)
      rw [if_pos (.inl (fun h => eG (ho.1 h).2))]
      clear eG eT ho q0 q3 k3 hml hmg
      rcases hk12 with rfl | ⟨rfl, rfl⟩
      · go_enter Tryd.func20, Tryd.ntmps20
        go_wp2_with (first
          | (go_at_call 58; go_must (first
            | ((with_reducible refine HC1.out.mono ?_); rintro e w1 ⟨rfl, hb⟩; have H1 := Lib.hid (bx_on H0.out hb); have k1 := H1.out.1.1.cell 1; simp only [List.getElem?_toArray, List.getElem?_cons_zero, List.getElem?_cons_succ] at k1; clear hb)
            | ((with_reducible refine (HC2.out _).mono ?_); rintro e w2 ⟨rfl, hb⟩; have H2 := Lib.hid (bx_on H1.out hb); clear hb k1; obtain ⟨c0, c1, c2, c3, c4, c5, c6, c7, c8⟩ := H2.out.1.1.im; have a2 : ∀ o, (w2.alloc o).cell? ⟨w.heap.size, 2, none⟩ = some (.int .u8 x.kind.toNat) := (fun o => (H2.out.1.1.alloc o).cell 2); have a5 : ∀ o, (w2.alloc o).cell? ⟨w.heap.size, 5, none⟩ = some (.int .u32 x.mx.toNat) := (fun o => (H2.out.1.1.alloc o).cell 5); have a6 : ∀ o, (w2.alloc o).cell? ⟨w.heap.size, 6, none⟩ = some (.bool x.bd) := (fun o => (H2.out.1.1.alloc o).cell 6); have a7 : ∀ o, (w2.alloc o).cell? ⟨w.heap.size, 7, none⟩ = some (.int .u8 x.gt.toNat) := (fun o => (H2.out.1.1.alloc o).cell 7)))))
        all_goals
          go_ret
          exact ⟨rfl, (bx_bel H2.out).alloc (bx_bel H2.out).size _⟩
      · go_enter Tryd.func20, Tryd.ntmps20
        go_wp2_with (first
          | (go_at_call 58; go_must (first
            | ((with_reducible refine HC1.out.mono ?_); rintro e w1 ⟨rfl, hb⟩; have H1 := Lib.hid (bx_on H0.out hb); have k1 := H1.out.1.1.cell 1; simp only [List.getElem?_toArray, List.getElem?_cons_zero, List.getElem?_cons_succ] at k1; clear hb)
            | ((with_reducible refine (HC2.out _).mono ?_); rintro e w2 ⟨rfl, hb⟩; have H2 := Lib.hid (bx_on H1.out hb); clear hb k1; obtain ⟨c0, c1, c2, c3, c4, c5, c6, c7, c8⟩ := H2.out.1.1.im; have a2 : ∀ o, (w2.alloc o).cell? ⟨w.heap.size, 2, none⟩ = some (.int .u8 x.kind.toNat) := (fun o => (H2.out.1.1.alloc o).cell 2); have a5 : ∀ o, (w2.alloc o).cell? ⟨w.heap.size, 5, none⟩ = some (.int .u32 x.mx.toNat) := (fun o => (H2.out.1.1.alloc o).cell 5); have a6 : ∀ o, (w2.alloc o).cell? ⟨w.heap.size, 6, none⟩ = some (.bool x.bd) := (fun o => (H2.out.1.1.alloc o).cell 6); have a7 : ∀ o, (w2.alloc o).cell? ⟨w.heap.size, 7, none⟩ = some (.int .u8 x.gt.toNat) := (fun o => (H2.out.1.1.alloc o).cell 7)))))
        all_goals
          go_ret
          exact ⟨rfl, (bx_bel H2.out).alloc (bx_bel H2.out).size _⟩
  · have hty : ((x.typ.toNat : Int) != 0) = true := nb_of (by simp; exact fun h => eT (z32.1 (by omega)))
    rw [if_pos (.inl (fun h => eT (ho.1 h).1))]
    clear eT ho q0 q3 k3 hml hmg
    rcases hk12 with rfl | ⟨rfl, rfl⟩
    · go_enter Tryd.func20, Tryd.ntmps20
      go_wp2_with (first
        | (go_at_call 58; go_must (first
          | ((with_reducible refine HC1.out.mono ?_); rintro e w1 ⟨rfl, hb⟩; have H1 := Lib.hid (bx_on H0.out hb); have k1 := H1.out.1.1.cell 1; simp only [List.getElem?_toArray, List.getElem?_cons_zero, List.getElem?_cons_succ] at k1; clear hb)
          | ((with_reducible refine (HC2.out _).mono ?_); rintro e w2 ⟨rfl, hb⟩; have H2 := Lib.hid (bx_on H1.out hb); clear hb k1; obtain ⟨c0, c1, c2, c3, c4, c5, c6, c7, c8⟩ := H2.out.1.1.im; have a2 : ∀ o, (w2.alloc o).cell? ⟨w.heap.size, 2, none⟩ = some (.int .u8 x.kind.toNat) := (fun o => (H2.out.1.1.alloc o).cell 2); have a5 : ∀ o, (w2.alloc o).cell? ⟨w.heap.size, 5, none⟩ = some (.int .u32 x.mx.toNat) := (fun o => (H2.out.1.1.alloc o).cell 5); have a6 : ∀ o, (w2.alloc o).cell? ⟨w.heap.size, 6, none⟩ = some (.bool x.bd) := (fun o => (H2.out.1.1.alloc o).cell 6); have a7 : ∀ o, (w2.alloc o).cell? ⟨w.heap.size, 7, none⟩ = some (.int .u8 x.gt.toNat) := (fun o => (H2.out.1.1.alloc o).cell 7)))))
      all_goals
        go_ret
        exact ⟨rfl, (bx_bel H2.out).alloc (bx_bel H2.out).size _⟩
    · go_enter Tryd.func20, Tryd.ntmps20
      go_wp2_with (first
        | (go_at_call 58; go_must (first
          | ((with_reducible refine HC1.out.mono ?_); rintro e w1 ⟨rfl, hb⟩; have H1 := Lib.hid (bx_on H0.out hb); have k1 := H1.out.1.1.cell 1; simp only [List.getElem?_toArray, List.getElem?_cons_zero, List.getElem?_cons_succ] at k1; clear hb)
          | ((with_reducible refine (HC2.out _).mono ?_); rintro e w2 ⟨rfl, hb⟩; have H2 := Lib.hid (bx_on H1.out hb); clear hb k1; obtain ⟨c0, c1, c2, c3, c4, c5, c6, c7, c8⟩ := H2.out.1.1.im; have a2 : ∀ o, (w2.alloc o).cell? ⟨w.heap.size, 2, none⟩ = some (.int .u8 x.kind.toNat) := (fun o => (H2.out.1.1.alloc o).cell 2); have a5 : ∀ o, (w2.alloc o).cell? ⟨w.heap.size, 5, none⟩ = some (.int .u32 x.mx.toNat) := (fun o => (H2.out.1.1.alloc o).cell 5); have a6 : ∀ o, (w2.alloc o).cell? ⟨w.heap.size, 6, none⟩ = some (.bool x.bd) := (fun o => (H2.out.1.1.alloc o).cell 6); have a7 : ∀ o, (w2.alloc o).cell? ⟨w.heap.size, 7, none⟩ = some (.int .u8 x.gt.toNat) := (fun o => (H2.out.1.1.alloc o).cell 7)))))
      all_goals
        go_ret
        exact ⟨rfl, (bx_bel H2.out).alloc (bx_bel H2.out).size _⟩
set_option maxHeartbeats 2000000 in
theorem rright_im (x : Im) (w : World) (h1 : x.mod.length ≤ 1000000) (h2 : x.nam.length ≤ 1000000) :
    Calls Tryd.prog 20 #[imV x] w fun e w' => e = .returned (.int .i64 (rZ x)) ∧ Below w.heap.size w w' := by
  by_cases z1 : checkZ x.mod = 0
  · by_cases z2 : checkZ x.nam = 0
    · by_cases k3 : 3 < x.kind.toNat
      · have hr : rZ x = 43 := by unfold rZ; rw [if_neg (by simpa using z1), if_neg (by simpa using z2), if_pos k3]
        have HC1 := Lib.hid (rcheck_im x.mod (w.alloc (.cells (imC x) 52)) h1)
        have HC2 := Lib.hid (fun W => rcheck_im x.nam W h2)
        rw [z1] at HC1
        rw [z2] at HC2
        have H0 := Lib.hid (bx_start w x)
        rw [hr]
        have d3 : decide ((3 : Int) < (x.kind.toNat : Int)) = true := decide_eq_true (by omega)
        clear hr k3 z1 z2 h1 h2
        go_enter Tryd.func20, Tryd.ntmps20
        go_wp2_with (go_at_call 58; go_must (first
          | ((with_reducible refine HC1.out.mono ?_); rintro e w1 ⟨rfl, hb⟩; have H1 := Lib.hid (bx_on H0.out hb); have k1 := H1.out.1.1.cell 1; simp only [List.getElem?_toArray, List.getElem?_cons_zero, List.getElem?_cons_succ] at k1; clear hb)
          | ((with_reducible refine (HC2.out _).mono ?_); rintro e w2 ⟨rfl, hb⟩; have H2 := Lib.hid (bx_on H1.out hb); clear hb k1; obtain ⟨c0, c1, c2, c3, c4, c5, c6, c7, c8⟩ := H2.out.1.1.im)))
        go_ret
        exact ⟨rfl, bx_bel H2.out⟩
      · exact rright_ok x w h1 h2 z1 z2 k3
    · have hr : rZ x = checkZ x.nam := by unfold rZ; rw [if_neg (by simpa using z1), if_pos z2]
      have HC1 := Lib.hid (rcheck_im x.mod (w.alloc (.cells (imC x) 52)) h1)
      have HC2 := Lib.hid (fun W => rcheck_im x.nam W h2)
      rw [z1] at HC1
      have H0 := Lib.hid (bx_start w x)
      rw [hr]
      have d3 : (checkZ x.nam != 0) = true := zb_of (by simpa using z2)
      clear hr z1 z2 h1 h2
      generalize checkZ x.nam = z at *
      go_enter Tryd.func20, Tryd.ntmps20
      go_wp2_with (go_at_call 58; go_must (first
          | ((with_reducible refine HC1.out.mono ?_); rintro e w1 ⟨rfl, hb⟩; have H1 := Lib.hid (bx_on H0.out hb); have k1 := H1.out.1.1.cell 1; simp only [List.getElem?_toArray, List.getElem?_cons_zero, List.getElem?_cons_succ] at k1; clear hb)
          | ((with_reducible refine (HC2.out _).mono ?_); rintro e w2 ⟨rfl, hb⟩; have H2 := Lib.hid (bx_on H1.out hb); clear hb k1)))
      go_ret
      exact ⟨rfl, bx_bel H2.out⟩
  · have hr : rZ x = checkZ x.mod := by unfold rZ; rw [if_pos z1]
    have HC1 := Lib.hid (rcheck_im x.mod (w.alloc (.cells (imC x) 52)) h1)
    have H0 := Lib.hid (bx_start w x)
    rw [hr]
    have d3 : (checkZ x.mod != 0) = true := zb_of (by simpa using z1)
    clear hr z1 h1 h2
    generalize checkZ x.mod = z at *
    go_enter Tryd.func20, Tryd.ntmps20
    go_wp2_with (go_at_call 58; go_must ((with_reducible refine HC1.out.mono ?_); rintro e w1 ⟨rfl, hb⟩; have H1 := Lib.hid (bx_on H0.out hb); clear hb))
    go_ret
    exact ⟨rfl, bx_bel H1.out⟩
end Go.Proofs.YtihpnplfklbgjaaDoor
