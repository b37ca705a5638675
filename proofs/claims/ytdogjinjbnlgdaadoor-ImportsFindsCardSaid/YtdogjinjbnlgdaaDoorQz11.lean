/- leb.Uint, leb.Int: what they hand back is a row of the call's own; a signed number's bytes. (By gen/genOwn.py from the leb layer.) -/
import Derived.Test.YtdogjinjbnlgdaaDoorQz10
import Derived.WalkSpells
import Derived.Laws.MakeOwn
import Derived.Test.YtdogjinjbnlgdaaDoorQz03
import Derived.Deep.CutBlock
import Derived.Deep.DeepCutAuto
namespace Go.Proofs.YtdogjinjbnlgdaaDoor
open Go.RowKit
set_option linter.unusedVariables false
set_option maxRecDepth 100000

def Owned (l : List Int) (w : World) (e : Ending) (w' : World) : Prop := ∃ v, e = .returned v ∧ w'.ownsRow w.heap.size 5 1 v l.length (cells l) ∧ Below w.heap.size w w'
theorem owned_own {w w' : World} {n : Nat} {v : Value} {l : List Int} (h : w'.ownsRow w.heap.size 5 1 v n (cells l)) (hn : l.length = n) (hb : Below w.heap.size w w') : Owned l w (.returned v) w' := by
  subst hn
  exact ⟨v, rfl, h, hb⟩
theorem own_end {x q : Int} {n k : Nat} {w w2 : World} {v : Value} (hq : q = x / 128 ^ k) (hn : Least (fitU x) n) (hno : ∀ m, 1 ≤ m → m ≤ k → ¬ fitU x m) (hf : q < 128)
    (ho : w2.ownsRow w.heap.size 5 1 v (k + 1) (cells (grps x k) ++ [.int .u8 q])) (hb : Below w.heap.size w w2) (h0 : 0 ≤ q) : Owned (grp x n) w (.returned v) w2 := by
  have hk : Least (fitU x) (k + 1) := ⟨by omega, by show x / 128 ^ k < 128; omega, fun m h1 h2 => hno m h1 (by omega)⟩
  obtain rfl := hk.unique hn
  have e : cells (grp x (k + 1)) = cells (grps x k) ++ [.int .u8 q] := by rw [grp_snoc, cells_snoc, ← hq, show q % 128 = q by omega]
  exact owned_own (by rw [e]; exact ho) (grp_length _ _) hb

set_option maxHeartbeats 400000 in
theorem uint_own (x : Int) (w : World) (h0 : 0 ≤ x) (h1 : x ≤ 18446744073709551615) {n : Nat} (hn : Least (fitU x) n) :
    Calls Tryd.prog 52 #[.int .u64 x] w (Owned (grp x n) w) := by
  have h10 : n ≤ 10 := hn.le (by omega) (fitU_ten x (by omega))
  obtain ⟨i0, hi0, hz0, hz1, hz2⟩ := info_parts infoB
  have HN := Lib.hid hn
  clear hn
  go_enter Tryd.func52, Tryd.ntmps52
  go_wp2_with (first
    | (go_at_call 72; go_must (refine (size_any _ _ h0 h1 HN.out).mono ?_; rintro e w' ⟨rfl, rfl⟩))
    | (at_make; refine wpList_make_own _ rfl _ _ _ rfl w.heap.size 5 i0 _ 1 Tryd.underlying31 hi0 hz0 hz1 .i64 .i64 _ n rfl rfl rfl (by rw [hz2]; omega) (by unfold maxLen; omega) (Nat.le_refl _) ?_; intro w1 hown1 hgrow1))
  have hbe1 : Below w.heap.size w w1 := below_of_gb hgrow1
  have HO := Lib.hid hown1
  have HB := Lib.hid hbe1
  clear hown1 hgrow1 hbe1
  go_loopw [3, 0] (fun b v wr => ∃ k : Nat, v = .int .u64 (x / 128 ^ k) ∧ wr.ownsRow w.heap.size 5 1 b k (cells (grps x k)) ∧ Below w.heap.size w wr ∧ ∀ m, 1 ≤ m → m ≤ k → ¬ fitU x m) (fun _ v _ => (intOf v).toNat)
  case atStart => exact ⟨0, by simp, HO.out, HB.out, fun m h1 h2 => by omega⟩
  case round =>
    obtain ⟨k, rfl, hown, hbe, hno⟩ := hrel
    obtain ⟨q, hq⟩ : ∃ q, q = x / 128 ^ k := ⟨_, rfl⟩
    have hq0 : 0 ≤ q := by rw [hq]; exact Int.ediv_nonneg h0 (Int.le_of_lt (p128 _))
    have hq1 : q ≤ 18446744073709551615 := by rw [hq]; exact Int.le_trans (Int.ediv_le_self _ h0) h1
    have hk : k ≤ 9 := by
      rcases Nat.lt_or_ge k 10 with g | g
      · omega
      · exact absurd (fitU_ten x (by omega)) (hno 10 (by omega) g)
    have hsz := hbe.size
    rw [← hq]
    have HQ := Lib.hid hq
    have HBE := Lib.hid hbe
    have HNO := Lib.hid hno
    have hor : bits .or .u8 (q % 256) 128 = q % 128 + 128 := byte_or q
    clear hq hbe hno
    by_cases hlt : 128 ≤ q
    · go_wp2_with (at_builtin; refine wpList_append_own _ rfl _ _ _ rfl w.heap.size 5 i0 _ 1 1 Tryd.underlying31 hi0 hz0 hz1 hz2 rfl (by omega) _ _ _ rfl (hown.alloc _) ⟨wr.heap.size, 0, none⟩ 1 1 [.int .u8 (q % 128 + 128)] rfl rfl (World.news_of_block (cs := #[.int .u8 (q % 128 + 128)]) (t := 5) (fr := (0, 0)) (heap_alloc_new wr _)) (by simp [Value.oneCell']) (by unfold maxLen; omega) (by omega) (by simp; omega) ?_; intro v' w2 hown2 hgrow2 _; have HO2 := Lib.hid hown2; have HG2 := Lib.hid hgrow2; clear hown2 hgrow2)
      go_roundw
      case rel => exact ⟨k + 1, by rw [pow_out, HQ.out], by rw [grps_snoc, cells_snoc, ← HQ.out]; exact HO2.out, below_append HBE.out hown HG2.out, no_more HNO.out (by rw [← HQ.out]; omega)⟩
      case measure => simp [intOf]; omega
    · go_wp2_with (at_builtin; refine wpList_append_own _ rfl _ _ _ rfl w.heap.size 5 i0 _ 1 1 Tryd.underlying31 hi0 hz0 hz1 hz2 rfl (by omega) _ _ _ rfl (hown.alloc _) ⟨wr.heap.size, 0, none⟩ 1 1 [.int .u8 q] rfl rfl (World.news_of_block (cs := #[.int .u8 q]) (t := 5) (fr := (0, 0)) (heap_alloc_new wr _)) (by simp [Value.oneCell']) (by unfold maxLen; omega) (by omega) (by simp; omega) ?_; intro v' w2 hown2 hgrow2 _; have HO2 := Lib.hid hown2; have HG2 := Lib.hid hgrow2; clear hown2 hgrow2)
      go_ret
      exact own_end HQ.out HN.out HNO.out (by omega) HO2.out (below_append HBE.out hown HG2.out) hq0

theorem own_endS {x q : Int} {n k : Nat} {w w2 : World} {v : Value} (hq : q = x / 128 ^ k) (hn : Least (fitS x) n) (hno : ∀ m, 1 ≤ m → m ≤ k → ¬ fitS x m) (hf : -64 ≤ q) (hf2 : q < 64)
    (ho : w2.ownsRow w.heap.size 5 1 v (k + 1) (cells (grps x k) ++ [.int .u8 (q % 128)])) (hb : Below w.heap.size w w2) : Owned (grp x n) w (.returned v) w2 := by
  have hk : Least (fitS x) (k + 1) := ⟨by omega, by show -64 ≤ x / 128 ^ k ∧ x / 128 ^ k < 64; omega, fun m h1 h2 => hno m h1 (by omega)⟩
  obtain rfl := hk.unique hn
  have e : cells (grp x (k + 1)) = cells (grps x k) ++ [.int .u8 (q % 128)] := by rw [grp_snoc, cells_snoc, ← hq]
  exact owned_own (by rw [e]; exact ho) (grp_length _ _) hb
theorem leastS (x : Int) (h0 : -9223372036854775808 ≤ x) (h1 : x ≤ 9223372036854775807) : ∃ n, Least (fitS x) n := least_find _ 10 (by omega) (fitS_ten x h0 (by omega))
/-- How many bytes a number with a sign takes. -/
noncomputable def sebN (x : Int) : Nat := if h : -9223372036854775808 ≤ x ∧ x ≤ 9223372036854775807 then (leastS x h.1 h.2).choose else 1
/-- A number's bytes, with a sign. -/
noncomputable def sebL (x : Int) : List UInt8 := (grp x (sebN x)).map fun c => UInt8.ofNat c.toNat
theorem sebN_least (x : Int) (h0 : -9223372036854775808 ≤ x) (h1 : x ≤ 9223372036854775807) : Least (fitS x) (sebN x) := by
  unfold sebN
  rw [dif_pos ⟨h0, h1⟩]
  exact (leastS x h0 h1).choose_spec
theorem nums_grp (x : Int) (n : Nat) : nums ((grp x n).map fun c => UInt8.ofNat c.toNat) = grp x n := by
  unfold nums
  rw [List.map_map]
  conv => rhs; rw [← List.map_id (grp x n)]
  apply List.map_congr_left
  intro c hc
  have := grp_bytes x _ c hc
  simp
  omega
theorem nums_sebL (x : Int) : nums (sebL x) = grp x (sebN x) := nums_grp x _
theorem sebL_length (x : Int) : (sebL x).length = sebN x := by unfold sebL; rw [List.length_map, grp_length]
theorem sebL_len (x : Int) (h0 : -9223372036854775808 ≤ x) (h1 : x ≤ 9223372036854775807) : 1 ≤ (sebL x).length ∧ (sebL x).length ≤ 10 := by
  rw [sebL_length]
  have h2 := sebN_least x h0 h1
  exact ⟨h2.1, h2.le (by omega) (fitS_ten x h0 (by omega))⟩
theorem bytesL_of {xs : List Int} {l : List UInt8} {w w' : World} {e : Ending} (h : Owned xs w e w') (hl : nums l = xs) : BytesL l w e w' := by
  obtain ⟨v, rfl, h1, h2⟩ := h
  subst hl
  rw [nums_length] at h1
  exact ⟨v, rfl, h1, h2⟩
theorem uintB (x : Int) (w : World) (h0 : 0 ≤ x) (h1 : x ≤ 18446744073709551615) : Calls Tryd.prog 52 #[.int .u64 x] w (BytesL (lebL x) w) :=
  (uint_own x w h0 h1 (lebN_least x h1)).mono fun _ _ h => bytesL_of h (nums_lebL x)
end Go.Proofs.YtdogjinjbnlgdaaDoor

/- imports.size, name, described; slices.Concat of four pieces. (By gen/genPut.py.) -/
namespace Go.Proofs.YtdogjinjbnlgdaaDoor
open Go.RowKit
set_option linter.unusedVariables false
set_option maxRecDepth 100000

noncomputable def nmL (s : List UInt8) : List UInt8 := lebL s.length ++ s
/-- What is behind the kind. -/
noncomputable def desL (x : Im) : List UInt8 :=
  if x.kind.toNat = 0 then lebL x.typ.toNat else if x.kind.toNat = 1 then [112] ++ encLim x.mn.toNat x.mx.toNat x.bd else
  if x.kind.toNat = 2 then encLim x.mn.toNat x.mx.toNat x.bd else encG x.gt.toNat x.gm
/-- Its bytes. -/
noncomputable def iputL (x : Im) : List UInt8 := nmL x.mod ++ nmL x.nam ++ [x.kind] ++ desL x
theorem u32_le (a : UInt32) : (a.toNat : Int) ≤ 4294967295 := by have := a.toNat_lt; omega
theorem u8_le (a : UInt8) : (a.toNat : Int) ≤ 255 := by have := a.toNat_lt; omega
theorem encLim_len (a b : Int) (c : Bool) (h1 : a ≤ 4294967295) (h2 : b ≤ 4294967295) : 1 ≤ (encLim a b c).length ∧ (encLim a b c).length ≤ 21 := by
  have m1 := lebL_len a (by omega)
  have m2 := lebL_len b (by omega)
  unfold encLim
  cases c <;> simp <;> omega
theorem nmL_len {s : List UInt8} {n : Nat} (h : s.length ≤ n) (hn : n ≤ 100000) : 1 ≤ (nmL s).length ∧ (nmL s).length ≤ n + 10 := by
  have := lebL_len (s.length : Int) (by omega)
  unfold nmL
  rw [List.length_append]
  omega
theorem desL_len (x : Im) : 1 ≤ (desL x).length ∧ (desL x).length ≤ 22 := by
  have m1 := lebL_len (x.typ.toNat : Int) (by have := u32_le x.typ; omega)
  have m2 := encLim_len x.mn.toNat x.mx.toNat x.bd (u32_le _) (u32_le _)
  have m3 : (encG x.gt.toNat x.gm).length = 2 := rfl
  unfold desL
  split
  · omega
  · split
    · rw [List.length_append, List.length_singleton]; omega
    · split <;> omega
theorem iputL_len {x : Im} {n : Nat} (h1 : x.mod.length ≤ n) (h2 : x.nam.length ≤ n) (hn : n ≤ 100000) : 4 ≤ (iputL x).length ∧ (iputL x).length ≤ 2 * n + 43 := by
  have m1 := nmL_len h1 hn
  have m2 := nmL_len h2 hn
  have m3 := desL_len x
  unfold iputL
  simp only [List.length_append, List.length_singleton]
  omega
theorem size_im (n : Nat) (w : World) (hn : n ≤ 1000000) : Calls Tryd.prog 46 #[.int .i64 n] w (BytesL (lebL n) w) := by
  have HU := Lib.hid (fun w => uintB (n : Int) w (by omega) (by omega))
  have wn : IntKind.u64.wrap (n : Int) = n := by simp [IntKind.wrap, IntKind.bits, IntKind.signed]; omega
  generalize lebL (n : Int) = y at *
  go_enter Tryd.func46, Tryd.ntmps46
  go_wp2_with (go_at_call 52; go_must ((with_reducible refine (HU.out _).mono ?_); intro e w1 h; obtain ⟨v, rfl, hr, hb⟩ := h; have HR := Lib.hid hr; have HB := Lib.hid hb; clear hr hb))
  go_ret
  exact ⟨_, rfl, HR.out, HB.out⟩
theorem name_im (s : List UInt8) (w : World) (hs : s.length ≤ 100000) : Calls Tryd.prog 28 #[.string (S s)] w (BytesL (nmL s) w) := by
  have HZ := Lib.hid (fun w => size_im s.length w (by omega))
  have hlen := lebL_len (s.length : Int) (by omega)
  have hsz := S_size s
  unfold nmL
  generalize lebL (s.length : Int) = y at *
  go_enter Tryd.func28, Tryd.ntmps28
  go_wp2_with (first
    | (go_at_call 46; go_must ((with_reducible refine (HZ.out _).mono ?_); intro e w1 h; obtain ⟨v, rfl, hr, hb⟩ := h; have HR := Lib.hid hr; have HB := Lib.hid hb; have hz1 := hb.size; clear hr hb))
    | (at_builtin; (refine row_str rfl _ _ rfl w.heap.size _ y rfl HR.out s rfl (by omega) hz1 ?_; intro v2 w2 hr2 hb2; have HR2 := Lib.hid hr2; have HB2 := Lib.hid hb2; clear hr2 hb2)))
  go_ret
  exact ⟨_, rfl, HR2.out, HB.out.trans HB2.out⟩
set_option maxHeartbeats 1600000 in
theorem des_im (x : Im) (w : World) : Calls Tryd.prog 29 #[imV x] w (BytesL (desL x) w) := by
  have hb0 := below_box w (.cells (imC x) 28)
  have HB0 := Lib.hid hb0
  have hz0 := hb0.size
  clear hb0
  by_cases h0 : x.kind.toNat = 0
  · have hx : desL x = lebL x.typ.toNat := by unfold desL; rw [if_pos h0]
    rw [hx]
    have HU := Lib.hid (fun w => uintB (x.typ.toNat : Int) w (by omega) (by have := u32_le x.typ; omega))
    have wn : IntKind.u64.wrap (x.typ.toNat : Int) = x.typ.toNat := by have := u32_le x.typ; simp [IntKind.wrap, IntKind.bits, IntKind.signed]; omega
    generalize lebL (x.typ.toNat : Int) = y at *
    have d0 : ((x.kind.toNat : Int) == 0) = true := be_of (by simp; omega)
    clear hx h0
    go_enter Tryd.func29, Tryd.ntmps29
    go_wp2_with (go_at_call 52; go_must ((with_reducible refine (HU.out _).mono ?_); intro e w1 h; obtain ⟨v, rfl, hr, hb⟩ := h; have HR := Lib.hid (hr.mono hz0); have HB := Lib.hid (HB0.out.trans (hb.mono hz0)); clear hr hb))
    go_ret
    exact ⟨_, rfl, HR.out, HB.out⟩
  have d0 : ((x.kind.toNat : Int) == 0) = false := be_of (by simp; omega)
  by_cases h1 : x.kind.toNat = 1
  · have hx : desL x = [112] ++ encLim x.mn.toNat x.mx.toNat x.bd := by unfold desL; rw [if_neg h0, if_pos h1]
    rw [hx]
    have HE := Lib.hid (fun w => elim_any x.mn.toNat x.mx.toNat x.bd w (by omega) (u32_le _) (by omega) (u32_le _))
    have hlen := encLim_len x.mn.toNat x.mx.toNat x.bd (u32_le _) (u32_le _)
    generalize encLim x.mn.toNat x.mx.toNat x.bd = y at *
    have d1 : ((x.kind.toNat : Int) == 1) = true := be_of (by simp; omega)
    have R0 : Hid (Row ((w.alloc (.cells (imC x) 28)).alloc (.cells #[.int .u8 112] 5)) w.heap.size (.slice (some ⟨w.heap.size + 1, 0, none⟩) 1 1) [112]) := Row.made _ [112] w.heap.size (w.heap.size + 1) (by simp) (by omega) (by simp)
    have HB1 := Lib.hid (HB0.out.trans ((below_box (w.alloc (.cells (imC x) 28)) (.cells #[.int .u8 112] 5)).mono hz0))
    clear hx h0 h1
    go_enter Tryd.func29, Tryd.ntmps29
    go_wp2_with (first
      | (go_at_call 53; go_must ((with_reducible refine (HE.out _).mono ?_); intro e w1 h; obtain ⟨v, rfl, hr, hb⟩ := h; obtain ⟨A1, c1, rfl, hp1⟩ := hr.pc; have HP := Lib.hid hp1; have HR0 := Lib.hid (R0.out.later hb); have HB := Lib.hid (HB1.out.trans (hb.mono HB1.out.size)); have hz1 := HB.out.size; clear hr hb hp1))
      | (at_builtin; (refine row_any rfl _ _ rfl w.heap.size _ [112] rfl HR0.out A1 y.length c1 w1.heap.size y rfl rfl HP.out.lies HP.out.nil (by simp; omega) hz1 ?_; intro v2 w2 hr2 hb2; have HR2 := Lib.hid hr2; have HB2 := Lib.hid hb2; clear hr2 hb2)))
    go_ret
    exact ⟨_, rfl, HR2.out, HB.out.trans HB2.out⟩
  have d1 : ((x.kind.toNat : Int) == 1) = false := be_of (by simp; omega)
  by_cases h2 : x.kind.toNat = 2
  · have hx : desL x = encLim x.mn.toNat x.mx.toNat x.bd := by unfold desL; rw [if_neg h0, if_neg h1, if_pos h2]
    rw [hx]
    have HE := Lib.hid (fun w => elim_any x.mn.toNat x.mx.toNat x.bd w (by omega) (u32_le _) (by omega) (u32_le _))
    generalize encLim x.mn.toNat x.mx.toNat x.bd = y at *
    have d2 : ((x.kind.toNat : Int) == 2) = true := be_of (by simp; omega)
    clear hx h0 h1 h2
    go_enter Tryd.func29, Tryd.ntmps29
    go_wp2_with (go_at_call 53; go_must ((with_reducible refine (HE.out _).mono ?_); intro e w1 h; obtain ⟨v, rfl, hr, hb⟩ := h; have HR := Lib.hid (hr.mono hz0); have HB := Lib.hid (HB0.out.trans (hb.mono hz0)); clear hr hb))
    go_ret
    exact ⟨_, rfl, HR.out, HB.out⟩
  have d2 : ((x.kind.toNat : Int) == 2) = false := be_of (by simp; omega)
  have hx : desL x = encG x.gt.toNat x.gm := by unfold desL; rw [if_neg h0, if_neg h1, if_neg h2]
  rw [hx]
  have HE := Lib.hid (fun w => encG_any x.gt.toNat x.gm w (by omega) (u8_le _))
  generalize encG x.gt.toNat x.gm = y at *
  clear hx h0 h1 h2
  go_enter Tryd.func29, Tryd.ntmps29
  go_wp2_with (go_at_call 54; go_must ((with_reducible refine (HE.out _).mono ?_); intro e w1 h; obtain ⟨v, rfl, hr, hb⟩ := h; have HR := Lib.hid (hr.mono hz0); have HB := Lib.hid (HB0.out.trans (hb.mono hz0)); clear hr hb))
  go_ret
  exact ⟨_, rfl, HR.out, HB.out⟩
set_option maxHeartbeats 1600000 in
/-- Concat of 4 pieces, of which one at least is not empty. -/
theorem concat4 {w : World} {g : Nat} {A1 A2 A3 A4 : Option Addr} {c1 c2 c3 c4 : Nat} {l1 l2 l3 l4 : List UInt8} (hg : Whole w g 31 #[.slice A1 l1.length c1, .slice A2 l2.length c2, .slice A3 l3.length c3, .slice A4 l4.length c4])
    (h1 : Pc A1 c1 l1 w) (h2 : Pc A2 c2 l2 w) (h3 : Pc A3 c3 l3 w) (h4 : Pc A4 c4 l4 w) (n1 : 0 < l1.length + l2.length + l3.length + l4.length) (n2 : l1.length + l2.length + l3.length + l4.length ≤ 1000000) :
    Calls Tryd.prog 27 #[.slice (some ⟨g, 0, none⟩) 4 4] w (BytesL (l1 ++ l2 ++ l3 ++ l4) w) := by
  have g0 : w.cell? ⟨g, 0, none⟩ = some (.slice A1 l1.length c1) := hg.cell 0
  have g1 : w.cell? ⟨g, 1, none⟩ = some (.slice A2 l2.length c2) := hg.cell 1
  have g2 : w.cell? ⟨g, 2, none⟩ = some (.slice A3 l3.length c3) := hg.cell 2
  have g3 : w.cell? ⟨g, 3, none⟩ = some (.slice A4 l4.length c4) := hg.cell 3
  obtain ⟨m1, hm1⟩ : ∃ m, m = l1.length := ⟨_, rfl⟩
  obtain ⟨m2, hm2⟩ : ∃ m, m = l2.length := ⟨_, rfl⟩
  obtain ⟨m3, hm3⟩ : ∃ m, m = l3.length := ⟨_, rfl⟩
  obtain ⟨m4, hm4⟩ : ∃ m, m = l4.length := ⟨_, rfl⟩
  rw [← hm1, ← hm2, ← hm3, ← hm4] at n1 n2
  rw [← hm1] at g0
  rw [← hm2] at g1
  rw [← hm3] at g2
  rw [← hm4] at g3
  have HG := Lib.hid hg
  have H1 := Lib.hid h1
  have H2 := Lib.hid h2
  have H3 := Lib.hid h3
  have H4 := Lib.hid h4
  have HM1 := Lib.hid hm1
  have HM2 := Lib.hid hm2
  have HM3 := Lib.hid hm3
  have HM4 := Lib.hid hm4
  clear hg h1 h2 h3 h4 hm1 hm2 hm3 hm4
  have HGr := Lib.hid (grow_any (m1 + m2 + m3 + m4) w (by omega) n2)
  go_enter Tryd.func27, Tryd.ntmps27
  go_wp2
  go_loop [3, 11] (fun s i => (s = .int .i64 0 ∧ i = .int .i64 0) ∨ (s = .int .i64 m1 ∧ i = .int .i64 1) ∨ (s = .int .i64 ((m1 + m2 : Nat) : Int) ∧ i = .int .i64 2) ∨ (s = .int .i64 ((m1 + m2 + m3 : Nat) : Int) ∧ i = .int .i64 3) ∨ (s = .int .i64 ((m1 + m2 + m3 + m4 : Nat) : Int) ∧ i = .int .i64 4)) (fun _ i => 4 - (intOf i).toNat)
  case atStart => exact .inl ⟨rfl, rfl⟩
  case round =>
    rcases hrel with ⟨rfl, rfl⟩ | ⟨rfl, rfl⟩ | ⟨rfl, rfl⟩ | ⟨rfl, rfl⟩ | ⟨rfl, rfl⟩
    · go_wp2
      go_round
      case rel => exact .inr (.inl ⟨by go_num, rfl⟩)
      case measure => simp [intOf]
    · go_wp2
      go_round
      case rel => exact .inr (.inr (.inl ⟨by go_num, rfl⟩))
      case measure => simp [intOf]
    · go_wp2
      go_round
      case rel => exact .inr (.inr (.inr (.inl ⟨by go_num, rfl⟩)))
      case measure => simp [intOf]
    · go_wp2
      go_round
      case rel => exact .inr (.inr (.inr (.inr ⟨by go_num, rfl⟩)))
      case measure => simp [intOf]
    · go_wp2_with (go_at_call 51; go_must (refine HGr.out.mono ?_; intro e w1 h; obtain ⟨v1, rfl, hr1, hb1⟩ := h; have HR1 := Lib.hid hr1; have HB1 := Lib.hid hb1; clear hr1 hb1))
      go_loopw [6, 27] (fun v i wr => Below w.heap.size w wr ∧ ((Row wr w.heap.size v [] ∧ i = .int .i64 0) ∨ (Row wr w.heap.size v l1 ∧ i = .int .i64 1) ∨ (Row wr w.heap.size v (l1 ++ l2) ∧ i = .int .i64 2) ∨ (Row wr w.heap.size v (l1 ++ l2 ++ l3) ∧ i = .int .i64 3) ∨ (Row wr w.heap.size v (l1 ++ l2 ++ l3 ++ l4) ∧ i = .int .i64 4))) (fun _ i _ => 4 - (intOf i).toNat)
      case atStart => exact ⟨HB1.out, .inl ⟨HR1.out, rfl⟩⟩
      case round =>
        obtain ⟨hb, ⟨hr, rfl⟩ | ⟨hr, rfl⟩ | ⟨hr, rfl⟩ | ⟨hr, rfl⟩ | ⟨hr, rfl⟩⟩ := hrel
        · have c0 : wr.cell? ⟨g, 0, none⟩ = some (.slice A1 m1 c1) := by have := (HG.out.below hb).cell 0; rw [HM1.out]; exact this
          have HR := Lib.hid hr
          have HB := Lib.hid hb
          have hz := hb.size
          clear hr hb
          go_wp2_with (at_builtin; (refine row_any rfl _ _ rfl w.heap.size _ [] rfl HR.out A1 m1 c1 wr.heap.size l1 rfl HM1.out.symm (H1.out.below HB.out).lies H1.out.nil (by have := HM1.out; have := HM2.out; have := HM3.out; have := HM4.out; (try simp only [List.length_append, List.length_nil]); omega) hz ?_; intro v2 w2 hr2 hb2; have HR2 := Lib.hid hr2; have HB2 := Lib.hid hb2; clear hr2 hb2))
          go_roundw
          case rel => exact ⟨HB.out.trans HB2.out, .inr (.inl ⟨by simpa using HR2.out, rfl⟩)⟩
          case measure => simp [intOf]
        · have c0 : wr.cell? ⟨g, 1, none⟩ = some (.slice A2 m2 c2) := by have := (HG.out.below hb).cell 1; rw [HM2.out]; exact this
          have HR := Lib.hid hr
          have HB := Lib.hid hb
          have hz := hb.size
          clear hr hb
          go_wp2_with (at_builtin; (refine row_any rfl _ _ rfl w.heap.size _ l1 rfl HR.out A2 m2 c2 wr.heap.size l2 rfl HM2.out.symm (H2.out.below HB.out).lies H2.out.nil (by have := HM1.out; have := HM2.out; have := HM3.out; have := HM4.out; (try simp only [List.length_append, List.length_nil]); omega) hz ?_; intro v2 w2 hr2 hb2; have HR2 := Lib.hid hr2; have HB2 := Lib.hid hb2; clear hr2 hb2))
          go_roundw
          case rel => exact ⟨HB.out.trans HB2.out, .inr (.inr (.inl ⟨by simpa using HR2.out, rfl⟩))⟩
          case measure => simp [intOf]
        · have c0 : wr.cell? ⟨g, 2, none⟩ = some (.slice A3 m3 c3) := by have := (HG.out.below hb).cell 2; rw [HM3.out]; exact this
          have HR := Lib.hid hr
          have HB := Lib.hid hb
          have hz := hb.size
          clear hr hb
          go_wp2_with (at_builtin; (refine row_any rfl _ _ rfl w.heap.size _ (l1 ++ l2) rfl HR.out A3 m3 c3 wr.heap.size l3 rfl HM3.out.symm (H3.out.below HB.out).lies H3.out.nil (by have := HM1.out; have := HM2.out; have := HM3.out; have := HM4.out; (try simp only [List.length_append, List.length_nil]); omega) hz ?_; intro v2 w2 hr2 hb2; have HR2 := Lib.hid hr2; have HB2 := Lib.hid hb2; clear hr2 hb2))
          go_roundw
          case rel => exact ⟨HB.out.trans HB2.out, .inr (.inr (.inr (.inl ⟨by simpa using HR2.out, rfl⟩)))⟩
          case measure => simp [intOf]
        · have c0 : wr.cell? ⟨g, 3, none⟩ = some (.slice A4 m4 c4) := by have := (HG.out.below hb).cell 3; rw [HM4.out]; exact this
          have HR := Lib.hid hr
          have HB := Lib.hid hb
          have hz := hb.size
          clear hr hb
          go_wp2_with (at_builtin; (refine row_any rfl _ _ rfl w.heap.size _ (l1 ++ l2 ++ l3) rfl HR.out A4 m4 c4 wr.heap.size l4 rfl HM4.out.symm (H4.out.below HB.out).lies H4.out.nil (by have := HM1.out; have := HM2.out; have := HM3.out; have := HM4.out; (try simp only [List.length_append, List.length_nil]); omega) hz ?_; intro v2 w2 hr2 hb2; have HR2 := Lib.hid hr2; have HB2 := Lib.hid hb2; clear hr2 hb2))
          go_roundw
          case rel => exact ⟨HB.out.trans HB2.out, .inr (.inr (.inr (.inr ⟨by simpa using HR2.out, rfl⟩)))⟩
          case measure => simp [intOf]
        · have HR := Lib.hid hr
          have HB := Lib.hid hb
          clear hr hb
          go_wp2
          go_ret
          exact ⟨_, rfl, HR.out, HB.out⟩
end Go.Proofs.YtdogjinjbnlgdaaDoor

/- sect.Put. -/
namespace Go.Proofs.YtdogjinjbnlgdaaDoor
open Go.RowKit
set_option linter.unusedVariables false
set_option maxRecDepth 100000

/-- A section's contents as they are written, and all its bytes. -/
noncomputable def innerL (x : Sct) : List UInt8 := if x.id.toNat = 0 then lebL x.name.length ++ x.name ++ x.body else x.body
noncomputable def sputL (x : Sct) : List UInt8 := [x.id] ++ lebL (innerL x).length ++ innerL x
def secV (x : Sct) (A : Option Addr) (c : Nat) : Value := .agg #[.int .u8 x.id.toNat, .string (S x.name), .slice A x.body.length c, .int .i64 x.off]
def secK (x : Sct) (A : Option Addr) (c : Nat) : Array Value := #[.int .u8 x.id.toNat, .string (S x.name), .slice A x.body.length c, .int .i64 x.off]
theorem innerL_len {x : Sct} {n : Nat} (h1 : x.name.length ≤ n) (h2 : x.body.length ≤ n) (hn : n ≤ 100000) : (innerL x).length ≤ 2 * n + 10 := by
  have h := lebL_len (x.name.length : Int) (by omega)
  unfold innerL
  split
  · simp only [List.length_append]; omega
  · omega
theorem sputL_len {x : Sct} {n : Nat} (h1 : x.name.length ≤ n) (h2 : x.body.length ≤ n) (hn : n ≤ 100000) : 2 ≤ (sputL x).length ∧ (sputL x).length ≤ 2 * n + 21 := by
  have h := innerL_len h1 h2 hn
  have h3 := lebL_len ((innerL x).length : Int) (by omega)
  unfold sputL
  simp only [List.length_append, List.length_singleton]
  omega
section
variable {w : World} {ops : Array Oper} {o : Oper} {a : Act} {K : Act → World → Prop} {Q : Exit → Act → World → Prop} {E : Prop}
theorem step_build1 (hgd : o.guard = none) (x : Operand) (ho : o.op = .buildSlice 31 1 #[(0, x)]) (c : UInt8) (hx : a.eval x = .int .u8 c.toNat)
    (h : ∀ g wa, w.heap.size ≤ g → Below w.heap.size w wa → Pc (some ⟨g, 0, none⟩) 1 [c] wa → K (a.put o.dst (.slice (some ⟨g, 0, none⟩) 1 1)) wa) :
    if Region.wanted o (yielded ops a.tmps) = true then Oper.wp Tryd.prog o a w K Q else E := by
  have hl := lies_made w [c] (0, 0)
  refine step_value (v := .slice (some ⟨w.heap.size, 0, none⟩) 1 1) (w' := w.alloc (.cells (cells (nums [c])).toArray 5)) hgd ?_ (h _ _ (Nat.le_refl _) (below_box w _) ⟨by rw [size_box]; exact hl, fun e => by cases e⟩)
  cases o
  subst ho
  clear h
  generalize a.eval = ev at hx ⊢
  simp [go_sem, hx, cells, nums]
theorem step_build3 (hgd : o.guard = none) (x0 x1 x2 : Operand) (ho : o.op = .buildSlice 82 3 #[(0, x0), (1, x1), (2, x2)]) {A0 A1 A2 : Option Addr} {n0 n1 n2 c0 c1 c2 : Nat} (h0 : a.eval x0 = .slice A0 n0 c0) (h1 : a.eval x1 = .slice A1 n1 c1) (h2 : a.eval x2 = .slice A2 n2 c2)
    (h : ∀ g wa, w.heap.size ≤ g → Below w.heap.size w wa → Whole wa g 31 #[.slice A0 n0 c0, .slice A1 n1 c1, .slice A2 n2 c2] → K (a.put o.dst (.slice (some ⟨g, 0, none⟩) 3 3)) wa) :
    if Region.wanted o (yielded ops a.tmps) = true then Oper.wp Tryd.prog o a w K Q else E := by
  refine step_value (v := .slice (some ⟨w.heap.size, 0, none⟩) 3 3) (w' := w.alloc (.cells #[.slice A0 n0 c0, .slice A1 n1 c1, .slice A2 n2 c2] 31)) hgd ?_ (h _ _ (Nat.le_refl _) (below_box w _) (Whole.made _ _ _))
  cases o
  subst ho
  clear h
  generalize a.eval = ev at h0 h1 h2 ⊢
  simp [go_sem, h0, h1, h2]
/-- []byte(s), as bytes that lie somewhere. -/
theorem step_convP (hgd : o.guard = none) (x : Operand) (ho : o.op = .convert 9 31 x) (l : List UInt8) (hx : a.eval x = .string (S l))
    (h : ∀ A cap wc, Below w.heap.size w wc → Pc A cap l wc → K (a.put o.dst (.slice A l.length cap)) wc) :
    if Region.wanted o (yielded ops a.tmps) = true then Oper.wp Tryd.prog o a w K Q else E :=
  step_conv hgd x ho l hx fun g cap wc _ _ _ hb hl => h _ _ _ hb ⟨hl, fun e => by cases e⟩
end
/-- []byte(s), behind the walk's own simplifying. -/
theorem upon_conv {o : Oper} {a : Act} {K : Act → World → Prop} {Q : Exit → Act → World → Prop} {W : World} {l : List UInt8} (h : ∀ A cap wc, Below W.heap.size W wc → Pc A cap l wc → K (a.put o.dst (.slice A l.length cap)) wc) :
    Oper.upon Tryd.prog o a K Q (((convert 9 31 (.string (S l))).run Tryd.prog W).andThen fun v w' => Result.ok (Next.value v) w') := by
  rw [conv_run (S l) W]
  have := h (some ⟨W.heap.size, 0, none⟩) (grownCap W (S l).size 0 5) (W.drew.alloc (convRow W (S l))) ((Below.refl _ _).drew.alloc (Nat.le_refl _) _) ⟨(conv_lies W l).more (by simp), fun e => by cases e⟩
  rw [← S_size] at this
  exact this
theorem hold2 {W W' : World} {X : Nat} {a b : Value} {W0 : World} (h : W.cell? ⟨X, 1, none⟩ = some a ∧ W.cell? ⟨X, 2, none⟩ = some b ∧ Below W0.heap.size W0 W) (hb : Below W.heap.size W W') : W'.cell? ⟨X, 1, none⟩ = some a ∧ W'.cell? ⟨X, 2, none⟩ = some b ∧ Below W0.heap.size W0 W' :=
  ⟨(hb.cell (p := ⟨X, 1, none⟩) (block_lt_of_cell h.1)).trans h.1, (hb.cell (p := ⟨X, 2, none⟩) (block_lt_of_cell h.2.1)).trans h.2.1, h.2.2.trans (hb.mono h.2.2.size)⟩
theorem hold1 {W W' : World} {X : Nat} {a : Value} {W0 : World} (h : W.cell? ⟨X, 0, none⟩ = some a ∧ Below W0.heap.size W0 W) (hb : Below W.heap.size W W') : W'.cell? ⟨X, 0, none⟩ = some a ∧ Below W0.heap.size W0 W' :=
  ⟨(hb.cell (p := ⟨X, 0, none⟩) (block_lt_of_cell h.1)).trans h.1, h.2.trans (hb.mono h.2.size)⟩
end Go.Proofs.YtdogjinjbnlgdaaDoor

/- imports.Put. -/
namespace Go.Proofs.YtdogjinjbnlgdaaDoor
open Go.RowKit
set_option linter.unusedVariables false
set_option maxRecDepth 100000

theorem step_build4 {w : World} {ops : Array Oper} {o : Oper} {a : Act} {K : Act → World → Prop} {Q : Exit → Act → World → Prop} {E : Prop} (hgd : o.guard = none) (x0 x1 x2 x3 : Operand) (ho : o.op = .buildSlice 82 4 #[(0, x0), (1, x1), (2, x2), (3, x3)]) {A0 A1 A2 A3 : Option Addr} {n0 n1 n2 n3 c0 c1 c2 c3 : Nat} (h0 : a.eval x0 = .slice A0 n0 c0) (h1 : a.eval x1 = .slice A1 n1 c1) (h2 : a.eval x2 = .slice A2 n2 c2) (h3 : a.eval x3 = .slice A3 n3 c3)
    (h : ∀ g wa, w.heap.size ≤ g → Below w.heap.size w wa → Whole wa g 31 #[.slice A0 n0 c0, .slice A1 n1 c1, .slice A2 n2 c2, .slice A3 n3 c3] → K (a.put o.dst (.slice (some ⟨g, 0, none⟩) 4 4)) wa) :
    if Region.wanted o (yielded ops a.tmps) = true then Oper.wp Tryd.prog o a w K Q else E := by
  refine step_value (v := .slice (some ⟨w.heap.size, 0, none⟩) 4 4) (w' := w.alloc (.cells #[.slice A0 n0 c0, .slice A1 n1 c1, .slice A2 n2 c2, .slice A3 n3 c3] 31)) hgd ?_ (h _ _ (Nat.le_refl _) (below_box _ _) (Whole.made _ _ _))
  cases o
  subst ho
  clear h
  generalize a.eval = ev at h0 h1 h2 h3 ⊢
  simp [go_sem, h0, h1, h2, h3]
/-- What Put hands back. -/
def Putted (x : Im) (w : World) (e : Ending) (w' : World) : Prop := ∃ v, e = .returned (.tuple #[v, .int .i64 (rZ x)]) ∧ Row w' w.heap.size v (if rZ x = 0 then iputL x else []) ∧ Below w.heap.size w w'
set_option maxHeartbeats 8000000 in
theorem put_im (x : Im) (w : World) (hT : Tabs w) (h1 : x.mod.length ≤ 100000) (h2 : x.nam.length ≤ 100000) :
    Calls Tryd.prog 8 #[imV x] w (Putted x w) := by
  have H0 := Lib.hid (bx_start w x)
  have HR := Lib.hid (iright_any x _ (by omega) (by omega) (hT.below (below_box w (.cells (imC x) 28))))
  unfold Putted
  obtain ⟨z, hz⟩ : ∃ z, z = rZ x := ⟨_, rfl⟩
  rw [← hz] at HR ⊢
  by_cases h0 : z = 0
  · rw [if_pos h0]
    subst h0
    have hlen := iputL_len h1 h2 (by omega)
    have hsp : iputL x = nmL x.mod ++ nmL x.nam ++ [x.kind] ++ desL x := rfl
    have hn1 := nmL_len h1 (by omega)
    have hn2 := nmL_len h2 (by omega)
    have hn3 := desL_len x
    have HN1 := Lib.hid (fun w => name_im x.mod w h1)
    have HN2 := Lib.hid (fun w => name_im x.nam w h2)
    have HD := Lib.hid (fun w => des_im x w)
    generalize nmL x.mod = y1 at *
    generalize nmL x.nam = y2 at *
    generalize desL x = y3 at *
    have HSP := Lib.hid hsp
    have HS := Lib.hid (show 0 < y1.length + y2.length + ([x.kind] : List UInt8).length + y3.length ∧ y1.length + y2.length + ([x.kind] : List UInt8).length + y3.length ≤ 1000000 by rw [List.length_singleton]; omega)
    clear hz hT h1 h2 hlen hsp hn1 hn2 hn3
    go_enter Tryd.func8, Tryd.ntmps8
    go_upto_region 4 with (go_at_call 9; go_must ((with_reducible refine HR.out.mono ?_); rintro e w1 ⟨rfl, hb⟩; have H1 := Lib.hid (bx_on H0.out hb); clear hb))
    have hB := bx_on H1.out (Below.refl _ _).drew
    clear H0 HR H1
    refine wp_region_noPanic ?_
    refine wp_region_held_drew (S := fun W => Bx w w.heap.size x W) (by kernel_rfl) hB (fun hHeld => ?_)
    clear hB
    (refine heldTake (i := 0) (oi := { dst := some 10, op := Op.fieldAddr 28 (Operand.tmp 1) 0, type := 0, pos := "imports.go:53", after := #[], guard := none }) (v := ?_) rfl (by kernel_rfl) (by kernel_rfl) (by kernel_rfl) (by assumption) ?_ ?_; rotate_left; focus (refine .inl ⟨by kernel_rfl, ?_⟩; intro w hSw; (try dsimp only at hSw); go_simp; (try with_reducible rfl)); (try simp only [Act.put, List.setIfInBounds_toArray, List.set_cons_zero, List.set_cons_succ]))
    (refine heldTake (i := 1) (oi := { dst := some 11, op := Op.load 9 (Operand.tmp 10), type := 9, pos := "imports.go:53", after := #[{ on := 0, ground := Ground.data }], guard := none }) (v := ?_) rfl (by kernel_rfl) (by kernel_rfl) (by kernel_rfl) (by assumption) ?_ ?_; rotate_left; focus (refine .inl ⟨by kernel_rfl, ?_⟩; intro w hSw; (try dsimp only at hSw); go_simp; (try with_reducible rfl)); (try simp only [Act.put, List.setIfInBounds_toArray, List.set_cons_zero, List.set_cons_succ]))
    (refine heldTake (i := 3) (oi := { dst := some 13, op := Op.fieldAddr 28 (Operand.tmp 1) 1, type := 0, pos := "imports.go:53", after := #[], guard := none }) (v := ?_) rfl (by kernel_rfl) (by kernel_rfl) (by kernel_rfl) (by assumption) ?_ ?_; rotate_left; focus (refine .inl ⟨by kernel_rfl, ?_⟩; intro w hSw; (try dsimp only at hSw); go_simp; (try with_reducible rfl)); (try simp only [Act.put, List.setIfInBounds_toArray, List.set_cons_zero, List.set_cons_succ]))
    (refine heldTake (i := 4) (oi := { dst := some 14, op := Op.load 9 (Operand.tmp 13), type := 9, pos := "imports.go:53", after := #[{ on := 3, ground := Ground.data }], guard := none }) (v := ?_) rfl (by kernel_rfl) (by kernel_rfl) (by kernel_rfl) (by assumption) ?_ ?_; rotate_left; focus (refine .inl ⟨by kernel_rfl, ?_⟩; intro w hSw; (try dsimp only at hSw); go_simp; (try with_reducible rfl)); (try simp only [Act.put, List.setIfInBounds_toArray, List.set_cons_zero, List.set_cons_succ]))
    (refine heldTake (i := 6) (oi := { dst := some 16, op := Op.fieldAddr 28 (Operand.tmp 1) 2, type := 0, pos := "imports.go:53", after := #[], guard := none }) (v := ?_) rfl (by kernel_rfl) (by kernel_rfl) (by kernel_rfl) (by assumption) ?_ ?_; rotate_left; focus (refine .inl ⟨by kernel_rfl, ?_⟩; intro w hSw; (try dsimp only at hSw); go_simp; (try with_reducible rfl)); (try simp only [Act.put, List.setIfInBounds_toArray, List.set_cons_zero, List.set_cons_succ]))
    (refine heldTake (i := 7) (oi := { dst := some 17, op := Op.load 5 (Operand.tmp 16), type := 5, pos := "imports.go:53", after := #[{ on := 6, ground := Ground.data }], guard := none }) (v := ?_) rfl (by kernel_rfl) (by kernel_rfl) (by kernel_rfl) (by assumption) ?_ ?_; rotate_left; focus (refine .inl ⟨by kernel_rfl, ?_⟩; intro w hSw; (try dsimp only at hSw); go_simp; (try with_reducible rfl)); (try simp only [Act.put, List.setIfInBounds_toArray, List.set_cons_zero, List.set_cons_succ]))
    (refine heldTake (i := 9) (oi := { dst := some 19, op := Op.load 28 (Operand.tmp 1), type := 28, pos := "imports.go:53", after := #[], guard := none }) (v := ?_) rfl (by kernel_rfl) (by kernel_rfl) (by kernel_rfl) (by assumption) ?_ ?_; rotate_left; focus (refine .inl ⟨by kernel_rfl, ?_⟩; intro w hSw; (try dsimp only at hSw); go_simp; (try with_reducible rfl)); (try simp only [Act.put, List.setIfInBounds_toArray, List.set_cons_zero, List.set_cons_succ]))
    refine wpAnyH_ready (rs := [2, 8]) (by kernel_rfl) (by simp) ?_
    refine (AllReadyH.cons (o := { dst := some 12, op := Op.call { callee := Callee.value (Operand.func 28), args := #[Operand.tmp 11], argTypes := #[9] }, type := 31, pos := "imports.go:53", after := #[{ on := 1, ground := Ground.data }], guard := none }) rfl (fun K hK => ?_) (AllReadyH.cons (o := { dst := some 18, op := Op.buildSlice 31 1 #[(0, Operand.tmp 17)], type := 31, pos := "imports.go:53", after := #[{ on := 7, ground := Ground.data }], guard := none }) rfl (fun K hK => ?_) AllReadyH.nil))
    · go_simp
      (go_at_call 28; (with_reducible refine (HN1.out _).mono ?_); rintro e w2 ⟨v2, rfl, hr2, hb2⟩; obtain ⟨A2, c2, rfl, hp2⟩ := hr2.pc; have HB2 := Lib.hid hb2; have HP2 := Lib.hid hp2; clear hb2 hp2 hr2)
      refine hK.out _ _ (bx_on hHeld HB2.out) (fun hHeld2 => ?_)
      clear hK K hHeld
      (try simp only [Act.put, List.setIfInBounds_toArray, List.set_cons_zero, List.set_cons_succ])
      refine wpAnyH_ready (rs := [5, 8]) (by kernel_rfl) (by simp) ?_
      refine (AllReadyH.cons (o := { dst := some 15, op := Op.call { callee := Callee.value (Operand.func 28), args := #[Operand.tmp 14], argTypes := #[9] }, type := 31, pos := "imports.go:53", after := #[{ on := 4, ground := Ground.data }, { on := 2, ground := Ground.chain }], guard := none }) rfl (fun K hK => ?_) (AllReadyH.cons (o := { dst := some 18, op := Op.buildSlice 31 1 #[(0, Operand.tmp 17)], type := 31, pos := "imports.go:53", after := #[{ on := 7, ground := Ground.data }], guard := none }) rfl (fun K hK => ?_) AllReadyH.nil))
      · go_simp
        (go_at_call 28; (with_reducible refine (HN2.out _).mono ?_); rintro e w5 ⟨v5, rfl, hr5, hb5⟩; obtain ⟨A5, c5, rfl, hp5⟩ := hr5.pc; have HB5 := Lib.hid hb5; have HP5 := Lib.hid hp5; clear hb5 hp5 hr5)
        refine hK.out _ _ (bx_on hHeld2 HB5.out) (fun hHeld5 => ?_)
        clear hK K hHeld2
        (try simp only [Act.put, List.setIfInBounds_toArray, List.set_cons_zero, List.set_cons_succ])
        refine wpAnyH_ready (rs := [8, 10]) (by kernel_rfl) (by simp) ?_
        refine (AllReadyH.cons (o := { dst := some 18, op := Op.buildSlice 31 1 #[(0, Operand.tmp 17)], type := 31, pos := "imports.go:53", after := #[{ on := 7, ground := Ground.data }], guard := none }) rfl (fun K hK => ?_) (AllReadyH.cons (o := { dst := some 20, op := Op.call { callee := Callee.value (Operand.func 29), args := #[Operand.tmp 19], argTypes := #[28] }, type := 31, pos := "imports.go:53", after := #[{ on := 9, ground := Ground.data }, { on := 5, ground := Ground.chain }], guard := none }) rfl (fun K hK => ?_) AllReadyH.nil))
        · refine step_build1 rfl _ rfl x.kind rfl ?_; intro g8 wa8 hg8 hb8 hp8; have HB8 := Lib.hid hb8; have HP8 := Lib.hid hp8; clear hb8 hp8
          refine hK.out _ _ (bx_on hHeld5 HB8.out) (fun hHeld8 => ?_)
          clear hK K hHeld5
          (try simp only [Act.put, List.setIfInBounds_toArray, List.set_cons_zero, List.set_cons_succ])
          refine wpAnyH_ready (rs := [10]) (by kernel_rfl) (by simp) ?_
          refine (AllReadyH.cons (o := { dst := some 20, op := Op.call { callee := Callee.value (Operand.func 29), args := #[Operand.tmp 19], argTypes := #[28] }, type := 31, pos := "imports.go:53", after := #[{ on := 9, ground := Ground.data }, { on := 5, ground := Ground.chain }], guard := none }) rfl (fun K hK => ?_) AllReadyH.nil)
          go_simp
          (go_at_call 29; (with_reducible refine (HD.out _).mono ?_); rintro e w10 ⟨v10, rfl, hr10, hb10⟩; obtain ⟨A10, c10, rfl, hp10⟩ := hr10.pc; have HB10 := Lib.hid hb10; have HP10 := Lib.hid hp10; clear hb10 hp10 hr10)
          refine hK.out _ _ (bx_on hHeld8 HB10.out) (fun hHeld10 => ?_)
          clear hK K hHeld8
          (try simp only [Act.put, List.setIfInBounds_toArray, List.set_cons_zero, List.set_cons_succ])
          refine wpAnyH_ready (rs := [11]) (by kernel_rfl) (by simp) ?_
          refine (AllReadyH.cons (o := { dst := some 21, op := Op.buildSlice 82 4 #[(0, Operand.tmp 12), (1, Operand.tmp 15), (2, Operand.tmp 18), (3, Operand.tmp 20)], type := 82, pos := "imports.go:53", after := #[{ on := 2, ground := Ground.data }, { on := 5, ground := Ground.data }, { on := 8, ground := Ground.data }, { on := 10, ground := Ground.data }], guard := none }) rfl (fun K hK => ?_) AllReadyH.nil)
          refine step_build4 rfl _ _ _ _ rfl rfl rfl rfl rfl ?_; intro g11 wa11 hg11 hb11 hw11; have HB11 := Lib.hid hb11; have HW11 := Lib.hid hw11; clear hb11 hw11
          refine hK.out _ _ (bx_on hHeld10 HB11.out) (fun hHeld11 => ?_)
          clear hK K hHeld10
          (try simp only [Act.put, List.setIfInBounds_toArray, List.set_cons_zero, List.set_cons_succ])
          refine wpAnyH_ready (rs := [12]) (by kernel_rfl) (by simp) ?_
          refine (AllReadyH.cons (o := { dst := some 22, op := Op.call { callee := Callee.value (Operand.func 27), args := #[Operand.tmp 21], argTypes := #[82] }, type := 31, pos := "imports.go:53", after := #[{ on := 11, ground := Ground.data }, { on := 10, ground := Ground.chain }], guard := none }) rfl (fun K hK => ?_) AllReadyH.nil)
          go_simp
          (go_at_call 27; (with_reducible refine (concat4 (l3 := [x.kind]) HW11.out (((((((((HP2.out).below HB5.out)).below HB8.out)).below HB10.out)).below HB11.out)) (((((((HP5.out).below HB8.out)).below HB10.out)).below HB11.out)) (((((HP8.out).below HB10.out)).below HB11.out)) (((HP10.out).below HB11.out)) HS.out.1 HS.out.2).mono ?_); rintro e w12 ⟨v12, rfl, hr12, hb12⟩; have hz12 := hHeld11.1.2.size; have HB12 := Lib.hid hb12; have HR12 := Lib.hid hr12; clear hb12 hr12)
          refine hK.out _ _ (bx_on hHeld11 HB12.out) (fun hHeld12 => ?_)
          clear hK K hHeld11
          (try simp only [Act.put, List.setIfInBounds_toArray, List.set_cons_zero, List.set_cons_succ])
          (refine heldTake (i := 13) (oi := { dst := some 2, op := Op.assign (Operand.tmp 22), type := 31, pos := "imports.go:53", after := #[{ on := 12, ground := Ground.data }, { on := 12, ground := Ground.chain }, { on := 0, ground := Ground.phase }, { on := 1, ground := Ground.phase }, { on := 2, ground := Ground.phase }, { on := 3, ground := Ground.phase }, { on := 4, ground := Ground.phase }, { on := 5, ground := Ground.phase }, { on := 6, ground := Ground.phase }, { on := 7, ground := Ground.phase }, { on := 8, ground := Ground.phase }, { on := 9, ground := Ground.phase }, { on := 10, ground := Ground.phase }, { on := 11, ground := Ground.phase }, { on := 12, ground := Ground.phase }], guard := none }) (v := ?_) rfl (by kernel_rfl) (by kernel_rfl) (by kernel_rfl) (by assumption) ?_ ?_; rotate_left; focus (refine .inl ⟨by kernel_rfl, ?_⟩; intro w hSw; (try dsimp only at hSw); go_simp; (try with_reducible rfl)); (try simp only [Act.put, List.setIfInBounds_toArray, List.set_cons_zero, List.set_cons_succ]))
          (refine heldTake (i := 14) (oi := { dst := some 3, op := Op.assign (Operand.const (Value.int IntKind.i64 0)), type := 32, pos := "imports.go:53", after := #[{ on := 13, ground := Ground.chain }, { on := 0, ground := Ground.phase }, { on := 1, ground := Ground.phase }, { on := 2, ground := Ground.phase }, { on := 3, ground := Ground.phase }, { on := 4, ground := Ground.phase }, { on := 5, ground := Ground.phase }, { on := 6, ground := Ground.phase }, { on := 7, ground := Ground.phase }, { on := 8, ground := Ground.phase }, { on := 9, ground := Ground.phase }, { on := 10, ground := Ground.phase }, { on := 11, ground := Ground.phase }, { on := 12, ground := Ground.phase }, { on := 13, ground := Ground.phase }], guard := none }) (v := ?_) rfl (by kernel_rfl) (by kernel_rfl) (by kernel_rfl) (by assumption) ?_ ?_; rotate_left; focus (refine .inl ⟨by kernel_rfl, ?_⟩; intro w hSw; (try dsimp only at hSw); go_simp; (try with_reducible rfl)); (try simp only [Act.put, List.setIfInBounds_toArray, List.set_cons_zero, List.set_cons_succ]))
          refine wpAnyH_done (by kernel_rfl) ?_ _
          refine NoPanic.normal ?_
          have hLast := hHeld12
          clear hHeld12
          go_wp2
          go_ret2
          exact ⟨_, rfl, by rw [HSP.out]; exact HR12.out.mono hz12, hLast.1.2⟩
        · go_simp
          (go_at_call 29; (with_reducible refine (HD.out _).mono ?_); rintro e w10 ⟨v10, rfl, hr10, hb10⟩; obtain ⟨A10, c10, rfl, hp10⟩ := hr10.pc; have HB10 := Lib.hid hb10; have HP10 := Lib.hid hp10; clear hb10 hp10 hr10)
          refine hK.out _ _ (bx_on hHeld5 HB10.out) (fun hHeld10 => ?_)
          clear hK K hHeld5
          (try simp only [Act.put, List.setIfInBounds_toArray, List.set_cons_zero, List.set_cons_succ])
          refine wpAnyH_ready (rs := [8]) (by kernel_rfl) (by simp) ?_
          refine (AllReadyH.cons (o := { dst := some 18, op := Op.buildSlice 31 1 #[(0, Operand.tmp 17)], type := 31, pos := "imports.go:53", after := #[{ on := 7, ground := Ground.data }], guard := none }) rfl (fun K hK => ?_) AllReadyH.nil)
          refine step_build1 rfl _ rfl x.kind rfl ?_; intro g8 wa8 hg8 hb8 hp8; have HB8 := Lib.hid hb8; have HP8 := Lib.hid hp8; clear hb8 hp8
          refine hK.out _ _ (bx_on hHeld10 HB8.out) (fun hHeld8 => ?_)
          clear hK K hHeld10
          (try simp only [Act.put, List.setIfInBounds_toArray, List.set_cons_zero, List.set_cons_succ])
          refine wpAnyH_ready (rs := [11]) (by kernel_rfl) (by simp) ?_
          refine (AllReadyH.cons (o := { dst := some 21, op := Op.buildSlice 82 4 #[(0, Operand.tmp 12), (1, Operand.tmp 15), (2, Operand.tmp 18), (3, Operand.tmp 20)], type := 82, pos := "imports.go:53", after := #[{ on := 2, ground := Ground.data }, { on := 5, ground := Ground.data }, { on := 8, ground := Ground.data }, { on := 10, ground := Ground.data }], guard := none }) rfl (fun K hK => ?_) AllReadyH.nil)
          refine step_build4 rfl _ _ _ _ rfl rfl rfl rfl rfl ?_; intro g11 wa11 hg11 hb11 hw11; have HB11 := Lib.hid hb11; have HW11 := Lib.hid hw11; clear hb11 hw11
          refine hK.out _ _ (bx_on hHeld8 HB11.out) (fun hHeld11 => ?_)
          clear hK K hHeld8
          (try simp only [Act.put, List.setIfInBounds_toArray, List.set_cons_zero, List.set_cons_succ])
          refine wpAnyH_ready (rs := [12]) (by kernel_rfl) (by simp) ?_
          refine (AllReadyH.cons (o := { dst := some 22, op := Op.call { callee := Callee.value (Operand.func 27), args := #[Operand.tmp 21], argTypes := #[82] }, type := 31, pos := "imports.go:53", after := #[{ on := 11, ground := Ground.data }, { on := 10, ground := Ground.chain }], guard := none }) rfl (fun K hK => ?_) AllReadyH.nil)
          go_simp
          (go_at_call 27; (with_reducible refine (concat4 (l3 := [x.kind]) HW11.out (((((((((HP2.out).below HB5.out)).below HB10.out)).below HB8.out)).below HB11.out)) (((((((HP5.out).below HB10.out)).below HB8.out)).below HB11.out)) (((HP8.out).below HB11.out)) (((((HP10.out).below HB8.out)).below HB11.out)) HS.out.1 HS.out.2).mono ?_); rintro e w12 ⟨v12, rfl, hr12, hb12⟩; have hz12 := hHeld11.1.2.size; have HB12 := Lib.hid hb12; have HR12 := Lib.hid hr12; clear hb12 hr12)
          refine hK.out _ _ (bx_on hHeld11 HB12.out) (fun hHeld12 => ?_)
          clear hK K hHeld11
          (try simp only [Act.put, List.setIfInBounds_toArray, List.set_cons_zero, List.set_cons_succ])
          (refine heldTake (i := 13) (oi := { dst := some 2, op := Op.assign (Operand.tmp 22), type := 31, pos := "imports.go:53", after := #[{ on := 12, ground := Ground.data }, { on := 12, ground := Ground.chain }, { on := 0, ground := Ground.phase }, { on := 1, ground := Ground.phase }, { on := 2, ground := Ground.phase }, { on := 3, ground := Ground.phase }, { on := 4, ground := Ground.phase }, { on := 5, ground := Ground.phase }, { on := 6, ground := Ground.phase }, { on := 7, ground := Ground.phase }, { on := 8, ground := Ground.phase }, { on := 9, ground := Ground.phase }, { on := 10, ground := Ground.phase }, { on := 11, ground := Ground.phase }, { on := 12, ground := Ground.phase }], guard := none }) (v := ?_) rfl (by kernel_rfl) (by kernel_rfl) (by kernel_rfl) (by assumption) ?_ ?_; rotate_left; focus (refine .inl ⟨by kernel_rfl, ?_⟩; intro w hSw; (try dsimp only at hSw); go_simp; (try with_reducible rfl)); (try simp only [Act.put, List.setIfInBounds_toArray, List.set_cons_zero, List.set_cons_succ]))
          (refine heldTake (i := 14) (oi := { dst := some 3, op := Op.assign (Operand.const (Value.int IntKind.i64 0)), type := 32, pos := "imports.go:53", after := #[{ on := 13, ground := Ground.chain }, { on := 0, ground := Ground.phase }, { on := 1, ground := Ground.phase }, { on := 2, ground := Ground.phase }, { on := 3, ground := Ground.phase }, { on := 4, ground := Ground.phase }, { on := 5, ground := Ground.phase }, { on := 6, ground := Ground.phase }, { on := 7, ground := Ground.phase }, { on := 8, ground := Ground.phase }, { on := 9, ground := Ground.phase }, { on := 10, ground := Ground.phase }, { on := 11, ground := Ground.phase }, { on := 12, ground := Ground.phase }, { on := 13, ground := Ground.phase }], guard := none }) (v := ?_) rfl (by kernel_rfl) (by kernel_rfl) (by kernel_rfl) (by assumption) ?_ ?_; rotate_left; focus (refine .inl ⟨by kernel_rfl, ?_⟩; intro w hSw; (try dsimp only at hSw); go_simp; (try with_reducible rfl)); (try simp only [Act.put, List.setIfInBounds_toArray, List.set_cons_zero, List.set_cons_succ]))
          refine wpAnyH_done (by kernel_rfl) ?_ _
          refine NoPanic.normal ?_
          have hLast := hHeld12
          clear hHeld12
          go_wp2
          go_ret2
          exact ⟨_, rfl, by rw [HSP.out]; exact HR12.out.mono hz12, hLast.1.2⟩
      · refine step_build1 rfl _ rfl x.kind rfl ?_; intro g8 wa8 hg8 hb8 hp8; have HB8 := Lib.hid hb8; have HP8 := Lib.hid hp8; clear hb8 hp8
        refine hK.out _ _ (bx_on hHeld2 HB8.out) (fun hHeld8 => ?_)
        clear hK K hHeld2
        (try simp only [Act.put, List.setIfInBounds_toArray, List.set_cons_zero, List.set_cons_succ])
        refine wpAnyH_ready (rs := [5]) (by kernel_rfl) (by simp) ?_
        refine (AllReadyH.cons (o := { dst := some 15, op := Op.call { callee := Callee.value (Operand.func 28), args := #[Operand.tmp 14], argTypes := #[9] }, type := 31, pos := "imports.go:53", after := #[{ on := 4, ground := Ground.data }, { on := 2, ground := Ground.chain }], guard := none }) rfl (fun K hK => ?_) AllReadyH.nil)
        go_simp
        (go_at_call 28; (with_reducible refine (HN2.out _).mono ?_); rintro e w5 ⟨v5, rfl, hr5, hb5⟩; obtain ⟨A5, c5, rfl, hp5⟩ := hr5.pc; have HB5 := Lib.hid hb5; have HP5 := Lib.hid hp5; clear hb5 hp5 hr5)
        refine hK.out _ _ (bx_on hHeld8 HB5.out) (fun hHeld5 => ?_)
        clear hK K hHeld8
        (try simp only [Act.put, List.setIfInBounds_toArray, List.set_cons_zero, List.set_cons_succ])
        refine wpAnyH_ready (rs := [10]) (by kernel_rfl) (by simp) ?_
        refine (AllReadyH.cons (o := { dst := some 20, op := Op.call { callee := Callee.value (Operand.func 29), args := #[Operand.tmp 19], argTypes := #[28] }, type := 31, pos := "imports.go:53", after := #[{ on := 9, ground := Ground.data }, { on := 5, ground := Ground.chain }], guard := none }) rfl (fun K hK => ?_) AllReadyH.nil)
        go_simp
        (go_at_call 29; (with_reducible refine (HD.out _).mono ?_); rintro e w10 ⟨v10, rfl, hr10, hb10⟩; obtain ⟨A10, c10, rfl, hp10⟩ := hr10.pc; have HB10 := Lib.hid hb10; have HP10 := Lib.hid hp10; clear hb10 hp10 hr10)
        refine hK.out _ _ (bx_on hHeld5 HB10.out) (fun hHeld10 => ?_)
        clear hK K hHeld5
        (try simp only [Act.put, List.setIfInBounds_toArray, List.set_cons_zero, List.set_cons_succ])
        refine wpAnyH_ready (rs := [11]) (by kernel_rfl) (by simp) ?_
        refine (AllReadyH.cons (o := { dst := some 21, op := Op.buildSlice 82 4 #[(0, Operand.tmp 12), (1, Operand.tmp 15), (2, Operand.tmp 18), (3, Operand.tmp 20)], type := 82, pos := "imports.go:53", after := #[{ on := 2, ground := Ground.data }, { on := 5, ground := Ground.data }, { on := 8, ground := Ground.data }, { on := 10, ground := Ground.data }], guard := none }) rfl (fun K hK => ?_) AllReadyH.nil)
        refine step_build4 rfl _ _ _ _ rfl rfl rfl rfl rfl ?_; intro g11 wa11 hg11 hb11 hw11; have HB11 := Lib.hid hb11; have HW11 := Lib.hid hw11; clear hb11 hw11
        refine hK.out _ _ (bx_on hHeld10 HB11.out) (fun hHeld11 => ?_)
        clear hK K hHeld10
        (try simp only [Act.put, List.setIfInBounds_toArray, List.set_cons_zero, List.set_cons_succ])
        refine wpAnyH_ready (rs := [12]) (by kernel_rfl) (by simp) ?_
        refine (AllReadyH.cons (o := { dst := some 22, op := Op.call { callee := Callee.value (Operand.func 27), args := #[Operand.tmp 21], argTypes := #[82] }, type := 31, pos := "imports.go:53", after := #[{ on := 11, ground := Ground.data }, { on := 10, ground := Ground.chain }], guard := none }) rfl (fun K hK => ?_) AllReadyH.nil)
        go_simp
        (go_at_call 27; (with_reducible refine (concat4 (l3 := [x.kind]) HW11.out (((((((((HP2.out).below HB8.out)).below HB5.out)).below HB10.out)).below HB11.out)) (((((HP5.out).below HB10.out)).below HB11.out)) (((((((HP8.out).below HB5.out)).below HB10.out)).below HB11.out)) (((HP10.out).below HB11.out)) HS.out.1 HS.out.2).mono ?_); rintro e w12 ⟨v12, rfl, hr12, hb12⟩; have hz12 := hHeld11.1.2.size; have HB12 := Lib.hid hb12; have HR12 := Lib.hid hr12; clear hb12 hr12)
        refine hK.out _ _ (bx_on hHeld11 HB12.out) (fun hHeld12 => ?_)
        clear hK K hHeld11
        (try simp only [Act.put, List.setIfInBounds_toArray, List.set_cons_zero, List.set_cons_succ])
        (refine heldTake (i := 13) (oi := { dst := some 2, op := Op.assign (Operand.tmp 22), type := 31, pos := "imports.go:53", after := #[{ on := 12, ground := Ground.data }, { on := 12, ground := Ground.chain }, { on := 0, ground := Ground.phase }, { on := 1, ground := Ground.phase }, { on := 2, ground := Ground.phase }, { on := 3, ground := Ground.phase }, { on := 4, ground := Ground.phase }, { on := 5, ground := Ground.phase }, { on := 6, ground := Ground.phase }, { on := 7, ground := Ground.phase }, { on := 8, ground := Ground.phase }, { on := 9, ground := Ground.phase }, { on := 10, ground := Ground.phase }, { on := 11, ground := Ground.phase }, { on := 12, ground := Ground.phase }], guard := none }) (v := ?_) rfl (by kernel_rfl) (by kernel_rfl) (by kernel_rfl) (by assumption) ?_ ?_; rotate_left; focus (refine .inl ⟨by kernel_rfl, ?_⟩; intro w hSw; (try dsimp only at hSw); go_simp; (try with_reducible rfl)); (try simp only [Act.put, List.setIfInBounds_toArray, List.set_cons_zero, List.set_cons_succ]))
        (refine heldTake (i := 14) (oi := { dst := some 3, op := Op.assign (Operand.const (Value.int IntKind.i64 0)), type := 32, pos := "imports.go:53", after := #[{ on := 13, ground := Ground.chain }, { on := 0, ground := Ground.phase }, { on := 1, ground := Ground.phase }, { on := 2, ground := Ground.phase }, { on := 3, ground := Ground.phase }, { on := 4, ground := Ground.phase }, { on := 5, ground := Ground.phase }, { on := 6, ground := Ground.phase }, { on := 7, ground := Ground.phase }, { on := 8, ground := Ground.phase }, { on := 9, ground := Ground.phase }, { on := 10, ground := Ground.phase }, { on := 11, ground := Ground.phase }, { on := 12, ground := Ground.phase }, { on := 13, ground := Ground.phase }], guard := none }) (v := ?_) rfl (by kernel_rfl) (by kernel_rfl) (by kernel_rfl) (by assumption) ?_ ?_; rotate_left; focus (refine .inl ⟨by kernel_rfl, ?_⟩; intro w hSw; (try dsimp only at hSw); go_simp; (try with_reducible rfl)); (try simp only [Act.put, List.setIfInBounds_toArray, List.set_cons_zero, List.set_cons_succ]))
        refine wpAnyH_done (by kernel_rfl) ?_ _
        refine NoPanic.normal ?_
        have hLast := hHeld12
        clear hHeld12
        go_wp2
        go_ret2
        exact ⟨_, rfl, by rw [HSP.out]; exact HR12.out.mono hz12, hLast.1.2⟩
    · refine step_build1 rfl _ rfl x.kind rfl ?_; intro g8 wa8 hg8 hb8 hp8; have HB8 := Lib.hid hb8; have HP8 := Lib.hid hp8; clear hb8 hp8
      refine hK.out _ _ (bx_on hHeld HB8.out) (fun hHeld8 => ?_)
      clear hK K hHeld
      (try simp only [Act.put, List.setIfInBounds_toArray, List.set_cons_zero, List.set_cons_succ])
      refine wpAnyH_ready (rs := [2]) (by kernel_rfl) (by simp) ?_
      refine (AllReadyH.cons (o := { dst := some 12, op := Op.call { callee := Callee.value (Operand.func 28), args := #[Operand.tmp 11], argTypes := #[9] }, type := 31, pos := "imports.go:53", after := #[{ on := 1, ground := Ground.data }], guard := none }) rfl (fun K hK => ?_) AllReadyH.nil)
      go_simp
      (go_at_call 28; (with_reducible refine (HN1.out _).mono ?_); rintro e w2 ⟨v2, rfl, hr2, hb2⟩; obtain ⟨A2, c2, rfl, hp2⟩ := hr2.pc; have HB2 := Lib.hid hb2; have HP2 := Lib.hid hp2; clear hb2 hp2 hr2)
      refine hK.out _ _ (bx_on hHeld8 HB2.out) (fun hHeld2 => ?_)
      clear hK K hHeld8
      (try simp only [Act.put, List.setIfInBounds_toArray, List.set_cons_zero, List.set_cons_succ])
      refine wpAnyH_ready (rs := [5]) (by kernel_rfl) (by simp) ?_
      refine (AllReadyH.cons (o := { dst := some 15, op := Op.call { callee := Callee.value (Operand.func 28), args := #[Operand.tmp 14], argTypes := #[9] }, type := 31, pos := "imports.go:53", after := #[{ on := 4, ground := Ground.data }, { on := 2, ground := Ground.chain }], guard := none }) rfl (fun K hK => ?_) AllReadyH.nil)
      go_simp
      (go_at_call 28; (with_reducible refine (HN2.out _).mono ?_); rintro e w5 ⟨v5, rfl, hr5, hb5⟩; obtain ⟨A5, c5, rfl, hp5⟩ := hr5.pc; have HB5 := Lib.hid hb5; have HP5 := Lib.hid hp5; clear hb5 hp5 hr5)
      refine hK.out _ _ (bx_on hHeld2 HB5.out) (fun hHeld5 => ?_)
      clear hK K hHeld2
      (try simp only [Act.put, List.setIfInBounds_toArray, List.set_cons_zero, List.set_cons_succ])
      refine wpAnyH_ready (rs := [10]) (by kernel_rfl) (by simp) ?_
      refine (AllReadyH.cons (o := { dst := some 20, op := Op.call { callee := Callee.value (Operand.func 29), args := #[Operand.tmp 19], argTypes := #[28] }, type := 31, pos := "imports.go:53", after := #[{ on := 9, ground := Ground.data }, { on := 5, ground := Ground.chain }], guard := none }) rfl (fun K hK => ?_) AllReadyH.nil)
      go_simp
      (go_at_call 29; (with_reducible refine (HD.out _).mono ?_); rintro e w10 ⟨v10, rfl, hr10, hb10⟩; obtain ⟨A10, c10, rfl, hp10⟩ := hr10.pc; have HB10 := Lib.hid hb10; have HP10 := Lib.hid hp10; clear hb10 hp10 hr10)
      refine hK.out _ _ (bx_on hHeld5 HB10.out) (fun hHeld10 => ?_)
      clear hK K hHeld5
      (try simp only [Act.put, List.setIfInBounds_toArray, List.set_cons_zero, List.set_cons_succ])
      refine wpAnyH_ready (rs := [11]) (by kernel_rfl) (by simp) ?_
      refine (AllReadyH.cons (o := { dst := some 21, op := Op.buildSlice 82 4 #[(0, Operand.tmp 12), (1, Operand.tmp 15), (2, Operand.tmp 18), (3, Operand.tmp 20)], type := 82, pos := "imports.go:53", after := #[{ on := 2, ground := Ground.data }, { on := 5, ground := Ground.data }, { on := 8, ground := Ground.data }, { on := 10, ground := Ground.data }], guard := none }) rfl (fun K hK => ?_) AllReadyH.nil)
      refine step_build4 rfl _ _ _ _ rfl rfl rfl rfl rfl ?_; intro g11 wa11 hg11 hb11 hw11; have HB11 := Lib.hid hb11; have HW11 := Lib.hid hw11; clear hb11 hw11
      refine hK.out _ _ (bx_on hHeld10 HB11.out) (fun hHeld11 => ?_)
      clear hK K hHeld10
      (try simp only [Act.put, List.setIfInBounds_toArray, List.set_cons_zero, List.set_cons_succ])
      refine wpAnyH_ready (rs := [12]) (by kernel_rfl) (by simp) ?_
      refine (AllReadyH.cons (o := { dst := some 22, op := Op.call { callee := Callee.value (Operand.func 27), args := #[Operand.tmp 21], argTypes := #[82] }, type := 31, pos := "imports.go:53", after := #[{ on := 11, ground := Ground.data }, { on := 10, ground := Ground.chain }], guard := none }) rfl (fun K hK => ?_) AllReadyH.nil)
      go_simp
      (go_at_call 27; (with_reducible refine (concat4 (l3 := [x.kind]) HW11.out (((((((HP2.out).below HB5.out)).below HB10.out)).below HB11.out)) (((((HP5.out).below HB10.out)).below HB11.out)) (((((((((HP8.out).below HB2.out)).below HB5.out)).below HB10.out)).below HB11.out)) (((HP10.out).below HB11.out)) HS.out.1 HS.out.2).mono ?_); rintro e w12 ⟨v12, rfl, hr12, hb12⟩; have hz12 := hHeld11.1.2.size; have HB12 := Lib.hid hb12; have HR12 := Lib.hid hr12; clear hb12 hr12)
      refine hK.out _ _ (bx_on hHeld11 HB12.out) (fun hHeld12 => ?_)
      clear hK K hHeld11
      (try simp only [Act.put, List.setIfInBounds_toArray, List.set_cons_zero, List.set_cons_succ])
      (refine heldTake (i := 13) (oi := { dst := some 2, op := Op.assign (Operand.tmp 22), type := 31, pos := "imports.go:53", after := #[{ on := 12, ground := Ground.data }, { on := 12, ground := Ground.chain }, { on := 0, ground := Ground.phase }, { on := 1, ground := Ground.phase }, { on := 2, ground := Ground.phase }, { on := 3, ground := Ground.phase }, { on := 4, ground := Ground.phase }, { on := 5, ground := Ground.phase }, { on := 6, ground := Ground.phase }, { on := 7, ground := Ground.phase }, { on := 8, ground := Ground.phase }, { on := 9, ground := Ground.phase }, { on := 10, ground := Ground.phase }, { on := 11, ground := Ground.phase }, { on := 12, ground := Ground.phase }], guard := none }) (v := ?_) rfl (by kernel_rfl) (by kernel_rfl) (by kernel_rfl) (by assumption) ?_ ?_; rotate_left; focus (refine .inl ⟨by kernel_rfl, ?_⟩; intro w hSw; (try dsimp only at hSw); go_simp; (try with_reducible rfl)); (try simp only [Act.put, List.setIfInBounds_toArray, List.set_cons_zero, List.set_cons_succ]))
      (refine heldTake (i := 14) (oi := { dst := some 3, op := Op.assign (Operand.const (Value.int IntKind.i64 0)), type := 32, pos := "imports.go:53", after := #[{ on := 13, ground := Ground.chain }, { on := 0, ground := Ground.phase }, { on := 1, ground := Ground.phase }, { on := 2, ground := Ground.phase }, { on := 3, ground := Ground.phase }, { on := 4, ground := Ground.phase }, { on := 5, ground := Ground.phase }, { on := 6, ground := Ground.phase }, { on := 7, ground := Ground.phase }, { on := 8, ground := Ground.phase }, { on := 9, ground := Ground.phase }, { on := 10, ground := Ground.phase }, { on := 11, ground := Ground.phase }, { on := 12, ground := Ground.phase }, { on := 13, ground := Ground.phase }], guard := none }) (v := ?_) rfl (by kernel_rfl) (by kernel_rfl) (by kernel_rfl) (by assumption) ?_ ?_; rotate_left; focus (refine .inl ⟨by kernel_rfl, ?_⟩; intro w hSw; (try dsimp only at hSw); go_simp; (try with_reducible rfl)); (try simp only [Act.put, List.setIfInBounds_toArray, List.set_cons_zero, List.set_cons_succ]))
      refine wpAnyH_done (by kernel_rfl) ?_ _
      refine NoPanic.normal ?_
      have hLast := hHeld12
      clear hHeld12
      go_wp2
      go_ret2
      exact ⟨_, rfl, by rw [HSP.out]; exact HR12.out.mono hz12, hLast.1.2⟩
  · rw [if_neg h0]
    have d0 : (z != 0) = true := zb_of (by simpa using h0)
    clear h0 hz hT h1 h2
    go_enter Tryd.func8, Tryd.ntmps8
    go_wp2_with (go_at_call 9; go_must ((with_reducible refine HR.out.mono ?_); rintro e w1 ⟨rfl, hb⟩; have H1 := Lib.hid (bx_on H0.out hb); clear hb))
    go_ret2
    exact ⟨_, rfl, Row.nil _ _, bx_bel H1.out⟩
end Go.Proofs.YtdogjinjbnlgdaaDoor
