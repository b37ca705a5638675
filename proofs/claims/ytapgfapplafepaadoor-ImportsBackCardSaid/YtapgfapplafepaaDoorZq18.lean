/- awake; the walk of ImportsFinds. -/
import Derived.Test.YtapgfapplafepaaDoorZq17
import Derived.Test.YtapgfapplafepaaDoorZq15
import Derived.Test.YtapgfapplafepaaDoorZq02
import Derived.Test.YtapgfapplafepaaDoorZq12
namespace Go.Proofs.YtapgfapplafepaaDoor
open Go.RowKit
set_option linter.unusedVariables false
set_option maxRecDepth 100000

/-- The chapter's example. -/
def imE : Im := ⟨[101, 110, 118], [102], 0, 5, 0, 0, false, 0, false⟩
theorem imE_right : rZ imE = 0 := by decide +kernel
theorem imE_put : iputL imE = [3, 101, 110, 118, 1, 102, 0, 5] := by
  have e3 : lebL (imE.mod.length : Int) = [3] := lebL_sm 3 (by omega) (by omega)
  have e1 : lebL (imE.nam.length : Int) = [1] := lebL_sm 1 (by omega) (by omega)
  have e5 : desL imE = [5] := by
    unfold desL
    rw [if_pos (by rfl)]
    exact lebL_sm 5 (by omega) (by omega)
  unfold iputL nmL
  rw [e3, e1, e5]
  rfl
theorem awake_im (w : World) (hT : Tabs w) : Calls Tryd.prog 9 #[] w fun e w' => e = .returned (.bool true) ∧ Below w.heap.size w w' := by
  have hp := put_im imE w hT (by decide) (by decide)
  obtain ⟨l, hl⟩ : ∃ l : List UInt8, l = [3, 101, 110, 118, 1, 102, 0, 5] := ⟨_, rfl⟩
  have HP := Lib.hid (show Calls Tryd.prog 11 #[.agg #[.string { data := #[101, 110, 118] }, .string { data := #[102] }, .int .u8 0, .int .u32 5, .int .u32 0, .int .u32 0, .bool false, .int .u8 0, .bool false]] w fun e w' => ∃ v, e = .returned (.tuple #[v, .int .i64 0]) ∧ Row w' w.heap.size v l ∧ Below w.heap.size w w' from hp.mono fun e w' ⟨v, h1, h2, h3⟩ => ⟨v, by rw [imE_right] at h1; exact h1, by rw [if_pos imE_right, imE_put] at h2; rw [hl]; exact h2, h3⟩)
  have hcmp : ((S l).toList == [3, 101, 110, 118, 1, 102, 0, 5]) = true := by rw [S_toList, hl]; rfl
  clear hl
  clear hp hT
  go_enter Tryd.func9, Tryd.ntmps9
  go_wp2_with (go_at_call 11; go_must ((with_reducible refine HP.out.mono ?_); intro e w1 h; obtain ⟨v, rfl, hr, hb⟩ := h; obtain ⟨A, c, rfl, hcv⟩ := hr.str; have hcv2 := hcv 9 Tryd.underlying9; have HB := Lib.hid hb; clear hb hr hcv))
  go_ret
  exact ⟨rfl, HB.out⟩
theorem ofL_get {kd : Int} {l : List Im} {k : Nat} {x : Im} (h : l[k]? = some x) (e : (x.kind.toNat : Int) = kd) : (ofL kd l)[(ofL kd (l.take k)).length]? = some x := by
  obtain ⟨h1, h2⟩ := List.getElem?_eq_some_iff.1 h
  have e1 : ofL kd l = ofL kd (l.take k) ++ (x :: ofL kd (l.drop (k + 1))) := by
    conv => lhs; rw [← List.take_append_drop k l, List.drop_eq_getElem_cons h1, h2]
    unfold ofL
    rw [List.filter_append, List.filter_cons_of_pos (by simpa using e)]
  rw [e1, List.getElem?_append_right (Nat.le_refl _), Nat.sub_self]
  rfl
theorem ofL_full (kd : Int) (l : List Im) (k : Nat) : (ofL kd (l.take k)).length ≤ (ofL kd l).length := by
  have e : ofL kd l = ofL kd (l.take k) ++ ofL kd (l.drop k) := by unfold ofL; rw [← List.filter_append, List.take_append_drop]
  rw [e, List.length_append]
  omega
/-- What the law's loop has found so far. -/
def Fnd (kd : Int) (md nm : List UInt8) (l : List Im) (k : Nat) (pl ok : Value) : Prop :=
  (ok = .bool false ∧ pl = .int .i64 0 ∧ plc kd md nm l 0 = plc kd md nm (l.drop k) (ofL kd (l.take k)).length) ∨ (∃ c : Nat, ok = .bool true ∧ pl = .int .i64 c ∧ plc kd md nm l 0 = some c)
theorem tmod_in {a : Int} {n : Nat} (h0 : 0 ≤ a) (hn : 0 < n) : ∃ j : Nat, j < n ∧ Int.tmod a n = j := by
  refine ⟨(a % n).toNat, ?_, ?_⟩
  · have := Int.emod_lt_of_pos a (show (0 : Int) < n by omega)
    have := Int.emod_nonneg a (show (n : Int) ≠ 0 by omega)
    omega
  · rw [Int.tmod_eq_emod_of_nonneg h0]
    have := Int.emod_nonneg a (show (n : Int) ≠ 0 by omega)
    omega
set_option maxHeartbeats 8000000 in
theorem lawF {w : World} {A : Option Addr} {c : Nat} {l : List Im} (kd a : Int) (hl : Ims w A l) (hT : Tabs w) (nl : (l.length : Int) ≤ 9223372036854775807) (a0 : 0 ≤ a) (a1 : a ≤ 255) :
    Calls Tryd.prog 5 #[.slice A l.length c, .int .u8 kd, .int .u8 a] w fun e w' => e = .returned (.bool true) ∧ Below w.heap.size w w' := by
  have HAW := Lib.hid (awake_im w hT)
  have HL := Lib.hid hl
  clear hl hT
  by_cases g1 : 40 < l.length
  · have t1 : decide ((40 : Int) < (l.length : Int)) = true := decide_eq_true (by omega)
    clear g1
    go_enter Tryd.func5, Tryd.ntmps5
    go_wp2_with (go_at_call 9; go_must ((with_reducible refine HAW.out.mono ?_); rintro e w1 ⟨rfl, hb⟩; have H1 := Lib.hid hb; clear hb))
    go_ret
    exact ⟨rfl, H1.out⟩
  have t1 : decide ((40 : Int) < (l.length : Int)) = false := decide_eq_false (by omega)
  by_cases g0 : 0 < l.length
  · have t2 : decide ((0 : Int) < (l.length : Int)) = true := decide_eq_true (by omega)
    obtain ⟨j, hj, ht⟩ := tmod_in a0 g0
    obtain ⟨x, hx⟩ : ∃ x, l[j]? = some x := ⟨_, List.getElem?_eq_getElem hj⟩
    obtain ⟨n, hn⟩ : ∃ n, n = l.length := ⟨_, rfl⟩
    have HN := Lib.hid hn
    have HX := Lib.hid hx
    rw [← hn] at t1 t2 ht hj g0 g1 ⊢
    have w1' : wrap64 a = a := by unfold wrap64; omega
    have hn0 : ((n : Int) == 0) = false := be_of (by simp; omega)
    clear hn hx
    go_enter Tryd.func5, Tryd.ntmps5
    go_upto_region 7 with (go_at_call 9; go_must ((with_reducible refine HAW.out.mono ?_); rintro e w1 ⟨rfl, hb⟩; have H1 := Lib.hid hb; have HL1 := Lib.hid (HL.out.below hb); clear hb))
    obtain ⟨b, off, rfl, hbl, m0, m1, m2, m3, m4, m5, m6, m7, m8⟩ := HL1.out.nine HX.out
    go_quiet (fail)
    -- REST
    have HLd := Lib.hid (HL1.out.below (below_drewN (Below.refl _ w1) nq))
    have HBd := Lib.hid (below_drewN H1.out nq)
    clear m0 m1 m2 m3 m4 m5 m6 m7 m8 hbl ht w1' hn0 t2 HX
    have HO := Lib.hid (of_im (c := c) kd HLd.out (by rw [← HN.out]; omega))
    rw [← HN.out] at HO
    have HNL := Lib.hid (show l.take n = l ∧ l.drop n = [] by rw [HN.out]; exact ⟨List.take_length, List.drop_length⟩)
    have HCt := Lib.hid (fun W (h : Ims W (some ⟨b, off, none⟩) l) => count_im (c := c) kd h (by rw [← HN.out]; omega))
    have HPl := Lib.hid (fun W (h : Ims W (some ⟨b, off, none⟩) l) => place_im (c := c) kd x.mod x.nam h (by rw [← HN.out]; omega))
    rw [← HN.out] at HCt HPl
    obtain ⟨an, han⟩ : ∃ an, an = plc kd x.mod x.nam l 0 := ⟨_, rfl⟩
    have HAn := Lib.hid han
    rw [← han] at HPl
    generalize w1.drewN nq = W1 at *
    generalize x.mod = md at *
    generalize x.nam = nm at *
    clear x
    clear han
    go_wp2_with (go_at_call 25; go_must ((with_reducible refine HO.out.mono ?_); intro e w2 h; obtain ⟨v, rfl, hr, hb⟩ := h; obtain ⟨A2, c2, rfl⟩ := hr.slice; have HR := Lib.hid hr.ims; have HB2 := Lib.hid (HBd.out.trans (hb.mono HBd.out.size)); have HL2 := Lib.hid (HLd.out.below hb); clear hr hb))
    obtain ⟨m, hm⟩ : ∃ m, m = (ofL kd l).length := ⟨_, rfl⟩
    have HM := Lib.hid hm
    rw [← hm]
    clear hm
    go_loopw [10, 11, 12, 13] (fun q pl ok i wr => ∃ k : Nat, k ≤ n ∧ i = .int .i64 k ∧ q = .int .i64 (ofL kd (l.take k)).length ∧ Fnd kd md nm l k pl ok ∧ Below w.heap.size w wr ∧ Ims wr (some ⟨b, off, none⟩) l ∧ Ims wr A2 (ofL kd l)) (fun _ _ _ i _ => n - (intOf i).toNat)
    case atStart => exact ⟨0, Nat.zero_le _, rfl, rfl, .inl ⟨rfl, rfl, rfl⟩, HB2.out, HL2.out, HR.out⟩
    case round =>
      obtain ⟨k, hk, rfl, rfl, hf, hb, hl2, hr2⟩ := hrel
      by_cases hlt : k < n
      · obtain ⟨x, hx⟩ : ∃ x, l[k]? = some x := ⟨_, List.getElem?_eq_getElem (by rw [← HN.out]; exact hlt)⟩
        obtain ⟨b, off, hA0, hbl, m0, m1, m2, m3, m4, m5, m6, m7, m8⟩ := hl2.nine hx
        injection hA0 with hA0; injection hA0 with e1 e2; subst e1; subst e2
        have hTk := ofL_take (kd := kd) hx
        have hqk := ofL_len kd l k
        have HLL := Lib.hid hl2
        have HRR := Lib.hid hr2
        have HB := Lib.hid hb
        have hpd := plc_drop (kd := kd) (m := md) (n := nm) hx (ofL kd (l.take k)).length
        by_cases e : (x.kind.toNat : Int) = kd
        · rw [if_pos e] at hTk hpd
          have hget := ofL_get hx e
          obtain ⟨b2, off2, hA2, hbl2, p0, p1, p2, p3, p4, p5, p6, p7, p8⟩ := hr2.nine hget
          subst hA2
          have hqm := (List.getElem?_eq_some_iff.1 hget).1
          rw [← HM.out] at hqm
          have hlen : (ofL kd (l.take (k + 1))).length = (ofL kd (l.take k)).length + 1 := by rw [hTk, List.length_append, List.length_singleton]
          have HTk := Lib.hid hlen
          obtain ⟨q, hq⟩ : ∃ q, q = (ofL kd (l.take k)).length := ⟨_, rfl⟩
          rw [← hq] at p0 p1 p2 p3 p4 p5 p6 p7 p8 hqm hpd HTk hqk ⊢
          have d1 : ((x.kind.toNat : Int) != kd) = false := by simpa using e
          have t3 : decide ((m : Int) ≤ (q : Int)) = false := decide_eq_false (by omega)
          have he : ∀ W, (binOp BinOp.neq 28 (imV x) (imV x)).run Tryd.prog W = .ok (.bool false) W := fun W => by rw [neq_im, decide_eq_true rfl]; rfl
          rcases hf with ⟨rfl, rfl, hp⟩ | ⟨cc, rfl, rfl, hp⟩
          · rw [← hq] at hp
            by_cases e2 : x.mod = md ∧ x.nam = nm
            · rw [if_pos e2] at hpd
              have HNew := Lib.hid (show Fnd kd md nm l (k + 1) (.int .i64 q) (.bool true) from .inr ⟨q, rfl, rfl, hp.trans hpd⟩)
              have d2 : ((S x.mod).toList == (S md).toList) = true := by  rw [S_beqM, decide_eq_true e2.1]
              have d3 : ((S x.nam).toList == (S nm).toList) = true := by  rw [S_beqM, decide_eq_true e2.2]
              clear e e2 hp hpd hTk hlen hq hb hl2 hr2 hget hx
              go_wp2
              go_quiet (fail)
              go_wp2
              go_roundw
              case rel => exact ⟨k + 1, by omega, by go_num, by rw [HTk.out]; go_num, HNew.out, below_drewN HB.out _, HLL.out.below (below_drewN (Below.refl _ _) _), HRR.out.below (below_drewN (Below.refl _ _) _)⟩
              case measure => simp [intOf]; omega
            · rw [if_neg e2] at hpd
              have HNew := Lib.hid (show Fnd kd md nm l (k + 1) (.int .i64 0) (.bool false) from .inl ⟨rfl, rfl, by rw [hlen, ← hq]; exact hp.trans hpd⟩)
              by_cases e3 : x.mod = md
              · have d2 : ((S x.mod).toList == (S md).toList) = true := by  rw [S_beqM, decide_eq_true e3]
                have d3 : ((S x.nam).toList == (S nm).toList) = false := by  rw [S_beqM, decide_eq_false (fun h => e2 ⟨e3, h⟩)]
                clear e e2 e3 hp hpd hTk hlen hq hb hl2 hr2 hget hx
                go_wp2
                go_quiet (fail)
                go_wp2
                go_roundw
                case rel => exact ⟨k + 1, by omega, by go_num, by rw [HTk.out]; go_num, HNew.out, below_drewN HB.out _, HLL.out.below (below_drewN (Below.refl _ _) _), HRR.out.below (below_drewN (Below.refl _ _) _)⟩
                case measure => simp [intOf]; omega
              · have d2 : ((S x.mod).toList == (S md).toList) = false := by  rw [S_beqM, decide_eq_false e3]
                clear e e2 e3 hp hpd hTk hlen hq hb hl2 hr2 hget hx
                go_wp2
                go_quiet (fail)
                go_wp2
                go_roundw
                case rel => exact ⟨k + 1, by omega, by go_num, by rw [HTk.out]; go_num, HNew.out, below_drewN HB.out _, HLL.out.below (below_drewN (Below.refl _ _) _), HRR.out.below (below_drewN (Below.refl _ _) _)⟩
                case measure => simp [intOf]; omega
          · have HNew := Lib.hid (show Fnd kd md nm l (k + 1) (.int .i64 cc) (.bool true) from .inr ⟨cc, rfl, rfl, hp⟩)
            clear e hp hpd hTk hlen hq hb hl2 hr2 hget hx
            go_wp2
            go_quiet (fail)
            go_wp2
            go_roundw
            case rel => exact ⟨k + 1, by omega, by go_num, by rw [HTk.out]; go_num, HNew.out, below_drewN HB.out _, HLL.out.below (below_drewN (Below.refl _ _) _), HRR.out.below (below_drewN (Below.refl _ _) _)⟩
            case measure => simp [intOf]; omega
        · rw [if_neg e] at hTk hpd
          have HTk := Lib.hid (congrArg List.length hTk)
          have d1 : ((x.kind.toNat : Int) != kd) = true := by simpa using e
          have hNew : ∀ pl ok, Fnd kd md nm l k pl ok → Fnd kd md nm l (k + 1) pl ok := fun pl ok h => h.elim (fun h => .inl ⟨h.1, h.2.1, by rw [hTk]; exact h.2.2.trans hpd⟩) .inr
          have HNew := Lib.hid (hNew _ _ hf)
          clear hNew
          generalize (ofL kd (l.take k)).length = q at *
          clear e hpd hTk hf hb hl2 hr2 hx
          go_wp2
          go_roundw
          case rel => exact ⟨k + 1, by omega, by go_num, by rw [HTk.out], HNew.out, HB.out, HLL.out, HRR.out⟩
          case measure => simp [intOf]; omega
      · obtain rfl : k = n := by omega
        rw [HNL.out.1, ← HM.out]
        have HB := Lib.hid hb
        have HP1 := Lib.hid (HPl.out _ hl2)
        have HC1 := Lib.hid (fun W (hb : Below wr.heap.size wr W) => HCt.out W (hl2.below hb))
        rw [← HM.out] at HC1
        rcases hf with ⟨rfl, rfl, hp⟩ | ⟨cc, rfl, rfl, hp⟩
        · rw [HNL.out.2] at hp
          have hn : an = none := by rw [HAn.out]; exact hp
          rw [hn] at HP1
          unfold plcV at HP1
          clear hp hn hb hl2 hr2 hlt
          go_wp2_with (first
            | (go_at_call 26; go_must ((with_reducible refine HP1.out.mono ?_); rintro e w5 ⟨rfl, hb⟩; have HB5 := Lib.hid hb; clear hb))
            | (go_at_call 27; go_must ((with_reducible refine (HC1.out _ HB5.out).mono ?_); rintro e w6 ⟨rfl, hb⟩; have HB6 := Lib.hid (HB5.out.trans (hb.mono HB5.out.size)); clear hb)))
          go_ret
          exact ⟨rfl, HB.out.trans (HB6.out.mono HB.out.size)⟩
        · have hn : an = some cc := by rw [HAn.out]; exact hp
          rw [hn] at HP1
          unfold plcV at HP1
          clear hp hn hb hl2 hr2 hlt
          go_wp2_with (first
            | (go_at_call 26; go_must ((with_reducible refine HP1.out.mono ?_); rintro e w5 ⟨rfl, hb⟩; have HB5 := Lib.hid hb; clear hb))
            | (go_at_call 27; go_must ((with_reducible refine (HC1.out _ HB5.out).mono ?_); rintro e w6 ⟨rfl, hb⟩; have HB6 := Lib.hid (HB5.out.trans (hb.mono HB5.out.size)); clear hb)))
          go_ret
          exact ⟨rfl, HB.out.trans (HB6.out.mono HB.out.size)⟩
  · obtain rfl : l = [] := List.eq_nil_of_length_eq_zero (by omega)
    have t2 : decide ((0 : Int) < (([] : List Im).length : Int)) = false := by decide
    have HO := Lib.hid (fun W (h : Ims W A ([] : List Im)) => of_im (c := c) kd h (by simp))
    have HCt := Lib.hid (fun W (h : Ims W A ([] : List Im)) => count_im (c := c) kd h (by simp))
    have HPl := Lib.hid (fun W (h : Ims W A ([] : List Im)) => show Calls Tryd.prog 26 #[.slice A ([] : List Im).length c, .int .u8 kd, .string { data := #[101, 110, 118] }, .string { data := #[102] }] W fun e w' => e = .returned (.tuple #[.int .i64 0, .bool false]) ∧ Below W.heap.size W w' from place_im (c := c) kd [101, 110, 118] [102] h (by simp))
    have hn0 : ([] : List Im).length = 0 := rfl
    have hof : (ofL kd []).length = 0 := rfl
    rw [hof] at HCt
    rw [hn0] at HO HCt HPl t1 t2 nl ⊢
    clear g1 g0 hn0
    go_enter Tryd.func5, Tryd.ntmps5
    go_wp2_with (first
      | (go_at_call 9; go_must ((with_reducible refine HAW.out.mono ?_); rintro e w1 ⟨rfl, hb⟩; have H1 := Lib.hid hb; have HL1 := Lib.hid (HL.out.below hb); clear hb))
      | (go_at_call 25; go_must ((with_reducible refine (HO.out _ HL1.out).mono ?_); intro e w2 h; obtain ⟨v, rfl, hr, hb⟩ := h; obtain ⟨A2, c2, rfl⟩ := hr.slice; have HB2 := Lib.hid (H1.out.trans (hb.mono H1.out.size)); have HL2 := Lib.hid (HL1.out.below hb); clear hr hb)))
    (try rw [hof])
    go_loopw [10, 11, 12, 13] (fun q pl ok i wr => i = .int .i64 0 ∧ q = .int .i64 0 ∧ pl = .int .i64 0 ∧ ok = .bool false ∧ Below w.heap.size w wr ∧ Ims wr A ([] : List Im)) (fun _ _ _ i _ => 0)
    case atStart => exact ⟨rfl, rfl, rfl, rfl, HB2.out, HL2.out⟩
    case round =>
      obtain ⟨rfl, rfl, rfl, rfl, hb, hl2⟩ := hrel
      have HB := Lib.hid hb
      have HLL := Lib.hid hl2
      clear hb hl2
      go_wp2_with (first
        | (go_at_call 26; go_must ((with_reducible refine (HPl.out _ HLL.out).mono ?_); rintro e w5 ⟨rfl, hb⟩; have HB5 := Lib.hid (HB.out.trans (hb.mono HB.out.size)); have HL5 := Lib.hid (HLL.out.below hb); clear hb))
        | (go_at_call 27; go_must ((with_reducible refine (HCt.out _ HL5.out).mono ?_); rintro e w6 ⟨rfl, hb⟩; have HB6 := Lib.hid (HB5.out.trans (hb.mono HB5.out.size)); clear hb)))
      go_ret
      exact ⟨rfl, HB6.out⟩
end Go.Proofs.YtapgfapplafepaaDoor

/- creelref10.Count, name, check. (By gen/genRef.py.) -/
namespace Go.Proofs.YtapgfapplafepaaDoor
open Go.RowKit Go.Lib
set_option linter.unusedVariables false
set_option maxRecDepth 100000

theorem rcount_im (n : Nat) (w : World) (hn : n ≤ 1000000) : Calls Tryd.prog 20 #[.int .i64 n] w (Strs (lebL n) w) := by
  have HC := Lib.hid (fun w => count_any (n : Int) w (by omega) (by omega))
  generalize lebL (n : Int) = y at *
  go_enter Tryd.func20, Tryd.ntmps20
  go_wp2_with (go_at_call 66; go_must ((with_reducible refine (HC.out _).mono ?_); rintro e w1 ⟨rfl, hb⟩; have HB := Lib.hid hb; clear hb))
  go_ret
  exact ⟨rfl, HB.out⟩
theorem rname_im (s : List UInt8) (w : World) (hs : s.length ≤ 100000) : Calls Tryd.prog 65 #[.string (S s)] w (Strs (nmL s) w) := by
  have HC := Lib.hid (fun w => count_any (s.length : Int) w (by omega) (by omega))
  have hlen := lebL_len (s.length : Int) (by omega)
  have hsz := S_size s
  unfold nmL
  generalize lebL (s.length : Int) = y at *
  have HA := Lib.hid (S_append y s)
  have sy := S_size y
  have q1 : ¬ 9223372036854775807 < (S y).size + s.length := by omega
  clear sy hlen
  go_enter Tryd.func65, Tryd.ntmps65
  go_wp2_with (go_at_call 66; go_must ((with_reducible refine (HC.out _).mono ?_); rintro e w1 ⟨rfl, hb⟩; have HB := Lib.hid hb; clear hb))
  go_ret
  exact ⟨congrArg (fun b => Ending.returned (Value.string b)) HA.out, HB.out⟩
theorem rcheck_im (s : List UInt8) (w : World) (hs : s.length ≤ 1000000) : Calls Tryd.prog 48 #[.string (S s)] w fun e w' => e = .returned (.int .i64 (checkZ s)) ∧ Below w.heap.size w w' := by
  have hsz := S_size s
  by_cases h2 : 200 < s.length
  · have e : checkZ s = 13 := by unfold checkZ; rw [if_pos h2]
    rw [e]
    have hs2 : (200 : Int) < (s.length : Int) := by omega
    clear e h2
    go_enter Tryd.func48, Tryd.ntmps48
    go_wp2
    go_ret
    exact ⟨rfl, Below.refl _ _⟩
  · have hd : decide ((200 : Int) < (s.length : Int)) = false := decide_eq_false (by omega)
    have HC := Lib.hid (fun w => refCount_any s w hs)
    by_cases hv : validD s = true
    · have e : checkZ s = 0 := by unfold checkZ; rw [if_neg h2, if_pos hv]
      rw [e]
      have hc : countZ s = (runeCountL s : Int) := by unfold countZ; rw [if_pos hv]
      have hd2 : decide (countZ s < 0) = false := decide_eq_false (by rw [hc]; omega)
      clear e h2 hv hc
      generalize countZ s = z at *
      go_enter Tryd.func48, Tryd.ntmps48
      go_wp2_with (go_at_call 72; go_must ((with_reducible refine (HC.out _).mono ?_); rintro e w1 ⟨rfl, hb⟩; have HB := Lib.hid hb; clear hb))
      go_ret
      exact ⟨rfl, HB.out⟩
    · have e : checkZ s = 4 := by unfold checkZ; rw [if_neg h2, if_neg hv]
      rw [e]
      have hc : countZ s = -1 := by unfold countZ; rw [if_neg hv]
      have hd2 : decide (countZ s < 0) = true := decide_eq_true (by rw [hc]; omega)
      clear e h2 hv hc
      generalize countZ s = z at *
      go_enter Tryd.func48, Tryd.ntmps48
      go_wp2_with (go_at_call 72; go_must ((with_reducible refine (HC.out _).mono ?_); rintro e w1 ⟨rfl, hb⟩; have HB := Lib.hid hb; clear hb))
      go_ret
      exact ⟨rfl, HB.out⟩
end Go.Proofs.YtapgfapplafepaaDoor

/- creelref10.Right. (By gen/genRef.py.) -/
namespace Go.Proofs.YtapgfapplafepaaDoor
open Go.RowKit Go.Lib
set_option linter.unusedVariables false
set_option maxRecDepth 100000

theorem z32 {a : UInt32} : ((a.toNat : Int) = 0) ↔ a = 0 := ⟨fun h => i32_of (b := 0) h, fun h => by subst h; rfl⟩
theorem z8 {a : UInt8} : ((a.toNat : Int) = 0) ↔ a = 0 := ⟨fun h => i8_of (b := 0) h, fun h => by subst h; rfl⟩
theorem neq_lim (a b : UInt32) (c : Bool) (w : World) : (binOp BinOp.neq 24 (.agg #[.int .u32 a.toNat, .int .u32 b.toNat, .bool c]) (.agg #[.int .u32 0, .int .u32 0, .bool false])).run Tryd.prog w = .ok (.bool (!decide (a = 0 ∧ b = 0 ∧ c = false))) w := by
  by_cases h1 : a = 0
  · have e1 := z32.2 h1
    by_cases h2 : b = 0
    · have e2 := z32.2 h2
      cases c
      · rw [decide_eq_true ⟨h1, h2, rfl⟩]
        clear h1 h2
        go_simp
      · rw [decide_eq_false (fun h => by cases h.2.2)]
        clear h1 h2
        go_simp
    · have e2 : ¬ (b.toNat : Int) = 0 := fun h => h2 (z32.1 h)
      rw [decide_eq_false (fun h => h2 h.2.1)]
      clear h1 h2
      go_simp
      intro q; omega
  · have e1 : ¬ (a.toNat : Int) = 0 := fun h => h1 (z32.1 h)
    rw [decide_eq_false (fun h => h1 h.1)]
    clear h1
    go_simp
    intro q; omega
theorem neq_glo (a : UInt8) (c : Bool) (w : World) : (binOp BinOp.neq 26 (.agg #[.int .u8 a.toNat, .bool c]) (.agg #[.int .u8 0, .bool false])).run Tryd.prog w = .ok (.bool (!decide (a = 0 ∧ c = false))) w := by
  by_cases h1 : a = 0
  · have e1 := z8.2 h1
    cases c
    · rw [decide_eq_true ⟨h1, rfl⟩]
      clear h1
      go_simp
    · rw [decide_eq_false (fun h => by cases h.2)]
      clear h1
      go_simp
  · have e1 : ¬ (a.toNat : Int) = 0 := fun h => h1 (z8.1 h)
    rw [decide_eq_false (fun h => h1 h.1)]
    clear h1
    go_simp
    intro q; omega
theorem ofK_0 {x : Im} (h : x.kind.toNat = 0) : x = ofK x ↔ (x.mn = 0 ∧ x.mx = 0 ∧ x.bd = false) ∧ x.gt = 0 ∧ x.gm = false := by
  unfold ofK
  rw [if_pos h]
  cases x
  simp [and_assoc]
theorem ofK_1 {x : Im} (h0 : ¬ x.kind.toNat = 0) (h : x.kind.toNat = 1 ∨ x.kind.toNat = 2) : x = ofK x ↔ x.typ = 0 ∧ x.gt = 0 ∧ x.gm = false := by
  unfold ofK
  rw [if_neg h0, if_pos h]
  cases x
  simp
theorem ofK_3 {x : Im} (h0 : x.kind.toNat = 3) : x = ofK x ↔ x.typ = 0 ∧ (x.mn = 0 ∧ x.mx = 0 ∧ x.bd = false) := by
  unfold ofK
  rw [if_neg (by omega), if_neg (by omega), if_pos h0]
  cases x
  simp
set_option maxHeartbeats 8000000 in
theorem rright_ok (x : Im) (w : World) (h1 : x.mod.length ≤ 1000000) (h2 : x.nam.length ≤ 1000000) (z1 : checkZ x.mod = 0) (z2 : checkZ x.nam = 0) (k3 : ¬ 3 < x.kind.toNat) :
    Calls Tryd.prog 10 #[imV x] w fun e w' => e = .returned (.int .i64 (rZ x)) ∧ Below w.heap.size w w' := by
  have HC1 := Lib.hid (rcheck_im x.mod (w.alloc (.cells (imC x) 28)) h1)
  have HC2 := Lib.hid (fun W => rcheck_im x.nam W h2)
  rw [z1] at HC1
  rw [z2] at HC2
  have H0 := Lib.hid (bx_start w x)
  have hr : rZ x = if x ≠ ofK x ∨ (x.bd = false ∧ x.mx.toNat ≠ 0) then 1 else if x.kind.toNat = 3 then valueZ x.gt.toNat else 0 := by
    unfold rZ; rw [if_neg (by simpa using z1), if_neg (by simpa using z2), if_neg k3]
  rw [hr]
  have d3 : decide ((3 : Int) < (x.kind.toNat : Int)) = false := decide_eq_false (by omega)
  have hml : ∀ {b : Bool}, decide (x.mn = 0 ∧ x.mx = 0 ∧ x.bd = false) = b → ∀ W, (binOp BinOp.neq 24 (.agg #[.int .u32 x.mn.toNat, .int .u32 x.mx.toNat, .bool x.bd]) (.agg #[.int .u32 0, .int .u32 0, .bool false])).run Tryd.prog W = .ok (.bool (!b)) W := fun h W => by rw [neq_lim, h]
  have hmg : ∀ {b : Bool}, decide (x.gt = 0 ∧ x.gm = false) = b → ∀ W, (binOp BinOp.neq 26 (.agg #[.int .u8 x.gt.toNat, .bool x.gm]) (.agg #[.int .u8 0, .bool false])).run Tryd.prog W = .ok (.bool (!b)) W := fun h W => by rw [neq_glo, h]
  have hz0 : ∀ W, (binOp BinOp.neq 24 (.agg #[.int .u32 0, .int .u32 0, .bool false]) (.agg #[.int .u32 0, .int .u32 0, .bool false])).run Tryd.prog W = .ok (.bool false) W := fun W => neq_lim 0 0 false W
  have hz1 : ∀ W, (binOp BinOp.neq 26 (.agg #[.int .u8 0, .bool false]) (.agg #[.int .u8 0, .bool false])).run Tryd.prog W = .ok (.bool false) W := fun W => neq_glo 0 false W
  clear z1 z2 h1 h2 hr
  by_cases q0 : x.kind.toNat = 0
  · have b0 : ((x.kind.toNat : Int) == 0) = true := be_of (by simp; omega)
    have b1 : ((x.kind.toNat : Int) == 1) = false := be_of (by simp; omega)
    have b2 : ((x.kind.toNat : Int) == 2) = false := be_of (by simp; omega)
    have b3 : ((x.kind.toNat : Int) == 3) = false := be_of (by simp; omega)
    have ho := ofK_0 q0
    by_cases eL : x.mn = 0 ∧ x.mx = 0 ∧ x.bd = false
    · have hL : ∀ W, _ := hml (decide_eq_true eL)
      by_cases eG : x.gt = 0 ∧ x.gm = false
      · have hG : ∀ W, _ := hmg (decide_eq_true eG)
        rw [if_neg (fun h => h.elim (fun h => h (ho.2 ⟨eL, eG⟩)) (fun h => h.2 (by rw [eL.2.1]; rfl))), if_neg (by omega)]
        have hm : ((x.mx.toNat : Int) != 0) = false := nb_of (by rw [eL.2.1]; rfl)
        have HBD := eL.2.2
        have HBE := Lib.hid HBD
        clear HBD eL eG ho q0 k3 hml hmg
        go_enter Tryd.func10, Tryd.ntmps10
        go_wp2_with (first
          | (go_at_call 48; go_must (first
            | ((with_reducible refine HC1.out.mono ?_); rintro e w1 ⟨rfl, hb⟩; have H1 := Lib.hid (bx_on H0.out hb); have k1 := H1.out.1.1.cell 1; simp only [List.getElem?_toArray, List.getElem?_cons_zero, List.getElem?_cons_succ] at k1; clear hb)
            | ((with_reducible refine (HC2.out _).mono ?_); rintro e w2 ⟨rfl, hb⟩; have H2 := Lib.hid (bx_on H1.out hb); clear hb k1; obtain ⟨c0, c1, c2, c3, c4, c5, c6, c7, c8⟩ := H2.out.1.1.im; have a2 : ∀ o, (w2.alloc o).cell? ⟨w.heap.size, 2, none⟩ = some (.int .u8 x.kind.toNat) := (fun o => (H2.out.1.1.alloc o).cell 2); have a5 : ∀ o, (w2.alloc o).cell? ⟨w.heap.size, 5, none⟩ = some (.int .u32 x.mx.toNat) := (fun o => (H2.out.1.1.alloc o).cell 5); have a6 : ∀ o, (w2.alloc o).cell? ⟨w.heap.size, 6, none⟩ = some (.bool x.bd) := (fun o => (H2.out.1.1.alloc o).cell 6); have a7 : ∀ o, (w2.alloc o).cell? ⟨w.heap.size, 7, none⟩ = some (.int .u8 x.gt.toNat) := (fun o => (H2.out.1.1.alloc o).cell 7)))))
        all_goals
          go_ret
          exact ⟨rfl, (bx_bel H2.out).alloc (bx_bel H2.out).size _⟩
      · have hG : ∀ W, _ := hmg (decide_eq_false eG)
        rw [if_pos (.inl (fun h => eG (ho.1 h).2))]
        clear eL eG ho q0 k3 hml hmg
        go_enter Tryd.func10, Tryd.ntmps10
        go_wp2_with (first
          | (go_at_call 48; go_must (first
            | ((with_reducible refine HC1.out.mono ?_); rintro e w1 ⟨rfl, hb⟩; have H1 := Lib.hid (bx_on H0.out hb); have k1 := H1.out.1.1.cell 1; simp only [List.getElem?_toArray, List.getElem?_cons_zero, List.getElem?_cons_succ] at k1; clear hb)
            | ((with_reducible refine (HC2.out _).mono ?_); rintro e w2 ⟨rfl, hb⟩; have H2 := Lib.hid (bx_on H1.out hb); clear hb k1; obtain ⟨c0, c1, c2, c3, c4, c5, c6, c7, c8⟩ := H2.out.1.1.im; have a2 : ∀ o, (w2.alloc o).cell? ⟨w.heap.size, 2, none⟩ = some (.int .u8 x.kind.toNat) := (fun o => (H2.out.1.1.alloc o).cell 2); have a5 : ∀ o, (w2.alloc o).cell? ⟨w.heap.size, 5, none⟩ = some (.int .u32 x.mx.toNat) := (fun o => (H2.out.1.1.alloc o).cell 5); have a6 : ∀ o, (w2.alloc o).cell? ⟨w.heap.size, 6, none⟩ = some (.bool x.bd) := (fun o => (H2.out.1.1.alloc o).cell 6); have a7 : ∀ o, (w2.alloc o).cell? ⟨w.heap.size, 7, none⟩ = some (.int .u8 x.gt.toNat) := (fun o => (H2.out.1.1.alloc o).cell 7)))))
        all_goals
          go_ret
          exact ⟨rfl, (bx_bel H2.out).alloc (bx_bel H2.out).size _⟩
    · have hL : ∀ W, _ := hml (decide_eq_false eL)
      rw [if_pos (.inl (fun h => eL (ho.1 h).1))]
      clear eL ho q0 k3 hml hmg
      go_enter Tryd.func10, Tryd.ntmps10
      go_wp2_with (first
        | (go_at_call 48; go_must (first
          | ((with_reducible refine HC1.out.mono ?_); rintro e w1 ⟨rfl, hb⟩; have H1 := Lib.hid (bx_on H0.out hb); have k1 := H1.out.1.1.cell 1; simp only [List.getElem?_toArray, List.getElem?_cons_zero, List.getElem?_cons_succ] at k1; clear hb)
          | ((with_reducible refine (HC2.out _).mono ?_); rintro e w2 ⟨rfl, hb⟩; have H2 := Lib.hid (bx_on H1.out hb); clear hb k1; obtain ⟨c0, c1, c2, c3, c4, c5, c6, c7, c8⟩ := H2.out.1.1.im; have a2 : ∀ o, (w2.alloc o).cell? ⟨w.heap.size, 2, none⟩ = some (.int .u8 x.kind.toNat) := (fun o => (H2.out.1.1.alloc o).cell 2); have a5 : ∀ o, (w2.alloc o).cell? ⟨w.heap.size, 5, none⟩ = some (.int .u32 x.mx.toNat) := (fun o => (H2.out.1.1.alloc o).cell 5); have a6 : ∀ o, (w2.alloc o).cell? ⟨w.heap.size, 6, none⟩ = some (.bool x.bd) := (fun o => (H2.out.1.1.alloc o).cell 6); have a7 : ∀ o, (w2.alloc o).cell? ⟨w.heap.size, 7, none⟩ = some (.int .u8 x.gt.toNat) := (fun o => (H2.out.1.1.alloc o).cell 7)))))
      all_goals
        go_ret
        exact ⟨rfl, (bx_bel H2.out).alloc (bx_bel H2.out).size _⟩
  have b0 : ((x.kind.toNat : Int) == 0) = false := be_of (by simp; omega)
  by_cases q3 : x.kind.toNat = 3
  · have b1 : ((x.kind.toNat : Int) == 1) = false := be_of (by simp; omega)
    have b2 : ((x.kind.toNat : Int) == 2) = false := be_of (by simp; omega)
    have b3 : ((x.kind.toNat : Int) == 3) = true := be_of (by simp; omega)
    have ho := ofK_3 q3
    by_cases eT : x.typ = 0
    · have hty : ((x.typ.toNat : Int) != 0) = false := nb_of (by rw [eT]; rfl)
      by_cases eL : x.mn = 0 ∧ x.mx = 0 ∧ x.bd = false
      · have hL : ∀ W, _ := hml (decide_eq_true eL)
        rw [if_neg (fun h => h.elim (fun h => h (ho.2 ⟨eT, eL⟩)) (fun h => h.2 (by rw [eL.2.1]; rfl))), if_pos q3]
        have hm : ((x.mx.toNat : Int) != 0) = false := nb_of (by rw [eL.2.1]; rfl)
        have HV := Lib.hid (fun W => refValue_any (x.gt.toNat : Int) W)
        have wg : wrap64 (x.gt.toNat : Int) = x.gt.toNat := by have := u8_le x.gt; unfold wrap64; omega
        clear eL eT ho q0 q3 k3 hml hmg
        go_enter Tryd.func10, Tryd.ntmps10
        go_wp2_with (first
          | (go_at_call 49; go_must ((with_reducible refine (HV.out _).mono ?_); rintro e w4 ⟨rfl, rfl⟩))
          | (go_at_call 48; go_must (first
            | ((with_reducible refine HC1.out.mono ?_); rintro e w1 ⟨rfl, hb⟩; have H1 := Lib.hid (bx_on H0.out hb); have k1 := H1.out.1.1.cell 1; simp only [List.getElem?_toArray, List.getElem?_cons_zero, List.getElem?_cons_succ] at k1; clear hb)
            | ((with_reducible refine (HC2.out _).mono ?_); rintro e w2 ⟨rfl, hb⟩; have H2 := Lib.hid (bx_on H1.out hb); clear hb k1; obtain ⟨c0, c1, c2, c3, c4, c5, c6, c7, c8⟩ := H2.out.1.1.im; have a2 : ∀ o, (w2.alloc o).cell? ⟨w.heap.size, 2, none⟩ = some (.int .u8 x.kind.toNat) := (fun o => (H2.out.1.1.alloc o).cell 2); have a5 : ∀ o, (w2.alloc o).cell? ⟨w.heap.size, 5, none⟩ = some (.int .u32 x.mx.toNat) := (fun o => (H2.out.1.1.alloc o).cell 5); have a6 : ∀ o, (w2.alloc o).cell? ⟨w.heap.size, 6, none⟩ = some (.bool x.bd) := (fun o => (H2.out.1.1.alloc o).cell 6); have a7 : ∀ o, (w2.alloc o).cell? ⟨w.heap.size, 7, none⟩ = some (.int .u8 x.gt.toNat) := (fun o => (H2.out.1.1.alloc o).cell 7)))))
        all_goals
          go_ret
          exact ⟨rfl, (bx_bel H2.out).alloc (bx_bel H2.out).size _⟩
      · have hL : ∀ W, _ := hml (decide_eq_false eL)
        rw [if_pos (.inl (fun h => eL (ho.1 h).2))]
        clear eL eT ho q0 q3 k3 hml hmg
        go_enter Tryd.func10, Tryd.ntmps10
        go_wp2_with (first
          | (go_at_call 48; go_must (first
            | ((with_reducible refine HC1.out.mono ?_); rintro e w1 ⟨rfl, hb⟩; have H1 := Lib.hid (bx_on H0.out hb); have k1 := H1.out.1.1.cell 1; simp only [List.getElem?_toArray, List.getElem?_cons_zero, List.getElem?_cons_succ] at k1; clear hb)
            | ((with_reducible refine (HC2.out _).mono ?_); rintro e w2 ⟨rfl, hb⟩; have H2 := Lib.hid (bx_on H1.out hb); clear hb k1; obtain ⟨c0, c1, c2, c3, c4, c5, c6, c7, c8⟩ := H2.out.1.1.im; have a2 : ∀ o, (w2.alloc o).cell? ⟨w.heap.size, 2, none⟩ = some (.int .u8 x.kind.toNat) := (fun o => (H2.out.1.1.alloc o).cell 2); have a5 : ∀ o, (w2.alloc o).cell? ⟨w.heap.size, 5, none⟩ = some (.int .u32 x.mx.toNat) := (fun o => (H2.out.1.1.alloc o).cell 5); have a6 : ∀ o, (w2.alloc o).cell? ⟨w.heap.size, 6, none⟩ = some (.bool x.bd) := (fun o => (H2.out.1.1.alloc o).cell 6); have a7 : ∀ o, (w2.alloc o).cell? ⟨w.heap.size, 7, none⟩ = some (.int .u8 x.gt.toNat) := (fun o => (H2.out.1.1.alloc o).cell 7)))))
        all_goals
          go_ret
          exact ⟨rfl, (bx_bel H2.out).alloc (bx_bel H2.out).size _⟩
    · have hty : ((x.typ.toNat : Int) != 0) = true := nb_of (by simp; exact fun h => eT (z32.1 (by omega)))
      rw [if_pos (.inl (fun h => eT (ho.1 h).1))]
      clear eT ho q0 q3 k3 hml hmg
      go_enter Tryd.func10, Tryd.ntmps10
      go_wp2_with (first
        | (go_at_call 48; go_must (first
          | ((with_reducible refine HC1.out.mono ?_); rintro e w1 ⟨rfl, hb⟩; have H1 := Lib.hid (bx_on H0.out hb); have k1 := H1.out.1.1.cell 1; simp only [List.getElem?_toArray, List.getElem?_cons_zero, List.getElem?_cons_succ] at k1; clear hb)
          | ((with_reducible refine (HC2.out _).mono ?_); rintro e w2 ⟨rfl, hb⟩; have H2 := Lib.hid (bx_on H1.out hb); clear hb k1; obtain ⟨c0, c1, c2, c3, c4, c5, c6, c7, c8⟩ := H2.out.1.1.im; have a2 : ∀ o, (w2.alloc o).cell? ⟨w.heap.size, 2, none⟩ = some (.int .u8 x.kind.toNat) := (fun o => (H2.out.1.1.alloc o).cell 2); have a5 : ∀ o, (w2.alloc o).cell? ⟨w.heap.size, 5, none⟩ = some (.int .u32 x.mx.toNat) := (fun o => (H2.out.1.1.alloc o).cell 5); have a6 : ∀ o, (w2.alloc o).cell? ⟨w.heap.size, 6, none⟩ = some (.bool x.bd) := (fun o => (H2.out.1.1.alloc o).cell 6); have a7 : ∀ o, (w2.alloc o).cell? ⟨w.heap.size, 7, none⟩ = some (.int .u8 x.gt.toNat) := (fun o => (H2.out.1.1.alloc o).cell 7)))))
      all_goals
        go_ret
        exact ⟨rfl, (bx_bel H2.out).alloc (bx_bel H2.out).size _⟩
  have b3 : ((x.kind.toNat : Int) == 3) = false := be_of (by simp; omega)
  have q12 : x.kind.toNat = 1 ∨ x.kind.toNat = 2 := by omega
  have hb1 : ∃ b1 b2, ((x.kind.toNat : Int) == 1) = b1 ∧ ((x.kind.toNat : Int) == 2) = b2 ∧ (b1 = true ∨ (b1 = false ∧ b2 = true)) := by
    rcases q12 with q | q
    · exact ⟨true, false, be_of (by simp; omega), be_of (by simp; omega), .inl rfl⟩
    · exact ⟨false, true, be_of (by simp; omega), be_of (by simp; omega), .inr ⟨rfl, rfl⟩⟩
  have ho := ofK_1 q0 q12
  clear q12
  obtain ⟨k1, k2, b1, b2, hk12⟩ := hb1
  have hf : ∀ (P : Prop) [Decidable P] (h : ¬ P), (if x ≠ ofK x ∨ (x.bd = false ∧ x.mx.toNat ≠ 0) then (1 : Int) else if x.kind.toNat = 3 then valueZ x.gt.toNat else 0) = if x ≠ ofK x ∨ (x.bd = false ∧ x.mx.toNat ≠ 0) then 1 else 0 := fun P _ h => by rw [if_neg q3]
  rw [hf False id]
  clear hf
  by_cases eT : x.typ = 0
  · have hty : ((x.typ.toNat : Int) != 0) = false := nb_of (by rw [eT]; rfl)
    by_cases eG : x.gt = 0 ∧ x.gm = false
    · have hG : ∀ W, _ := hmg (decide_eq_true eG)
      by_cases eB : x.bd = false
      · by_cases eM : x.mx.toNat = 0
        · rw [if_neg (fun h => h.elim (fun h => h (ho.2 ⟨eT, eG⟩)) (fun h => h.2 eM))]
          have hm : ((x.mx.toNat : Int) != 0) = false := nb_of (by simp; omega)
          have HBD := Lib.hid eB
          clear eB eM eG eT ho q0 q3 k3 hml hmg
          rcases hk12 with rfl | ⟨rfl, rfl⟩
          · go_enter Tryd.func10, Tryd.ntmps10
            go_wp2_with (first
              | (go_at_call 48; go_must (first
                | ((with_reducible refine HC1.out.mono ?_); rintro e w1 ⟨rfl, hb⟩; have H1 := Lib.hid (bx_on H0.out hb); have k1 := H1.out.1.1.cell 1; simp only [List.getElem?_toArray, List.getElem?_cons_zero, List.getElem?_cons_succ] at k1; clear hb)
                | ((with_reducible refine (HC2.out _).mono ?_); rintro e w2 ⟨rfl, hb⟩; have H2 := Lib.hid (bx_on H1.out hb); clear hb k1; obtain ⟨c0, c1, c2, c3, c4, c5, c6, c7, c8⟩ := H2.out.1.1.im; have a2 : ∀ o, (w2.alloc o).cell? ⟨w.heap.size, 2, none⟩ = some (.int .u8 x.kind.toNat) := (fun o => (H2.out.1.1.alloc o).cell 2); have a5 : ∀ o, (w2.alloc o).cell? ⟨w.heap.size, 5, none⟩ = some (.int .u32 x.mx.toNat) := (fun o => (H2.out.1.1.alloc o).cell 5); have a6 : ∀ o, (w2.alloc o).cell? ⟨w.heap.size, 6, none⟩ = some (.bool x.bd) := (fun o => (H2.out.1.1.alloc o).cell 6); have a7 : ∀ o, (w2.alloc o).cell? ⟨w.heap.size, 7, none⟩ = some (.int .u8 x.gt.toNat) := (fun o => (H2.out.1.1.alloc o).cell 7); have hbd := HBD.out))))
            all_goals
              go_ret
              exact ⟨rfl, (bx_bel H2.out).alloc (bx_bel H2.out).size _⟩
          · go_enter Tryd.func10, Tryd.ntmps10
            go_wp2_with (first
              | (go_at_call 48; go_must (first
                | ((with_reducible refine HC1.out.mono ?_); rintro e w1 ⟨rfl, hb⟩; have H1 := Lib.hid (bx_on H0.out hb); have k1 := H1.out.1.1.cell 1; simp only [List.getElem?_toArray, List.getElem?_cons_zero, List.getElem?_cons_succ] at k1; clear hb)
                | ((with_reducible refine (HC2.out _).mono ?_); rintro e w2 ⟨rfl, hb⟩; have H2 := Lib.hid (bx_on H1.out hb); clear hb k1; obtain ⟨c0, c1, c2, c3, c4, c5, c6, c7, c8⟩ := H2.out.1.1.im; have a2 : ∀ o, (w2.alloc o).cell? ⟨w.heap.size, 2, none⟩ = some (.int .u8 x.kind.toNat) := (fun o => (H2.out.1.1.alloc o).cell 2); have a5 : ∀ o, (w2.alloc o).cell? ⟨w.heap.size, 5, none⟩ = some (.int .u32 x.mx.toNat) := (fun o => (H2.out.1.1.alloc o).cell 5); have a6 : ∀ o, (w2.alloc o).cell? ⟨w.heap.size, 6, none⟩ = some (.bool x.bd) := (fun o => (H2.out.1.1.alloc o).cell 6); have a7 : ∀ o, (w2.alloc o).cell? ⟨w.heap.size, 7, none⟩ = some (.int .u8 x.gt.toNat) := (fun o => (H2.out.1.1.alloc o).cell 7); have hbd := HBD.out))))
            all_goals
              go_ret
              exact ⟨rfl, (bx_bel H2.out).alloc (bx_bel H2.out).size _⟩
        · rw [if_pos (.inr ⟨eB, eM⟩)]
          have hm : ((x.mx.toNat : Int) != 0) = true := nb_of (by simp; omega)
          have HBD := Lib.hid eB
          clear eB eM eG eT ho q0 q3 k3 hml hmg
          rcases hk12 with rfl | ⟨rfl, rfl⟩
          · go_enter Tryd.func10, Tryd.ntmps10
            go_wp2_with (first
              | (go_at_call 48; go_must (first
                | ((with_reducible refine HC1.out.mono ?_); rintro e w1 ⟨rfl, hb⟩; have H1 := Lib.hid (bx_on H0.out hb); have k1 := H1.out.1.1.cell 1; simp only [List.getElem?_toArray, List.getElem?_cons_zero, List.getElem?_cons_succ] at k1; clear hb)
                | ((with_reducible refine (HC2.out _).mono ?_); rintro e w2 ⟨rfl, hb⟩; have H2 := Lib.hid (bx_on H1.out hb); clear hb k1; obtain ⟨c0, c1, c2, c3, c4, c5, c6, c7, c8⟩ := H2.out.1.1.im; have a2 : ∀ o, (w2.alloc o).cell? ⟨w.heap.size, 2, none⟩ = some (.int .u8 x.kind.toNat) := (fun o => (H2.out.1.1.alloc o).cell 2); have a5 : ∀ o, (w2.alloc o).cell? ⟨w.heap.size, 5, none⟩ = some (.int .u32 x.mx.toNat) := (fun o => (H2.out.1.1.alloc o).cell 5); have a6 : ∀ o, (w2.alloc o).cell? ⟨w.heap.size, 6, none⟩ = some (.bool x.bd) := (fun o => (H2.out.1.1.alloc o).cell 6); have a7 : ∀ o, (w2.alloc o).cell? ⟨w.heap.size, 7, none⟩ = some (.int .u8 x.gt.toNat) := (fun o => (H2.out.1.1.alloc o).cell 7); have hbd := HBD.out))))
            all_goals
              go_ret
              exact ⟨rfl, (bx_bel H2.out).alloc (bx_bel H2.out).size _⟩
          · go_enter Tryd.func10, Tryd.ntmps10
            go_wp2_with (first
              | (go_at_call 48; go_must (first
                | ((with_reducible refine HC1.out.mono ?_); rintro e w1 ⟨rfl, hb⟩; have H1 := Lib.hid (bx_on H0.out hb); have k1 := H1.out.1.1.cell 1; simp only [List.getElem?_toArray, List.getElem?_cons_zero, List.getElem?_cons_succ] at k1; clear hb)
                | ((with_reducible refine (HC2.out _).mono ?_); rintro e w2 ⟨rfl, hb⟩; have H2 := Lib.hid (bx_on H1.out hb); clear hb k1; obtain ⟨c0, c1, c2, c3, c4, c5, c6, c7, c8⟩ := H2.out.1.1.im; have a2 : ∀ o, (w2.alloc o).cell? ⟨w.heap.size, 2, none⟩ = some (.int .u8 x.kind.toNat) := (fun o => (H2.out.1.1.alloc o).cell 2); have a5 : ∀ o, (w2.alloc o).cell? ⟨w.heap.size, 5, none⟩ = some (.int .u32 x.mx.toNat) := (fun o => (H2.out.1.1.alloc o).cell 5); have a6 : ∀ o, (w2.alloc o).cell? ⟨w.heap.size, 6, none⟩ = some (.bool x.bd) := (fun o => (H2.out.1.1.alloc o).cell 6); have a7 : ∀ o, (w2.alloc o).cell? ⟨w.heap.size, 7, none⟩ = some (.int .u8 x.gt.toNat) := (fun o => (H2.out.1.1.alloc o).cell 7); have hbd := HBD.out))))
            all_goals
              go_ret
              exact ⟨rfl, (bx_bel H2.out).alloc (bx_bel H2.out).size _⟩
      · rw [if_neg (fun h => h.elim (fun h => h (ho.2 ⟨eT, eG⟩)) (fun h => eB h.1))]
        have HBD := Lib.hid (show x.bd = true by simpa using eB)
        clear eB eG eT ho q0 q3 k3 hml hmg
        rcases hk12 with rfl | ⟨rfl, rfl⟩
        · go_enter Tryd.func10, Tryd.ntmps10
          go_wp2_with (first
            | (go_at_call 48; go_must (first
              | ((with_reducible refine HC1.out.mono ?_); rintro e w1 ⟨rfl, hb⟩; have H1 := Lib.hid (bx_on H0.out hb); have k1 := H1.out.1.1.cell 1; simp only [List.getElem?_toArray, List.getElem?_cons_zero, List.getElem?_cons_succ] at k1; clear hb)
              | ((with_reducible refine (HC2.out _).mono ?_); rintro e w2 ⟨rfl, hb⟩; have H2 := Lib.hid (bx_on H1.out hb); clear hb k1; obtain ⟨c0, c1, c2, c3, c4, c5, c6, c7, c8⟩ := H2.out.1.1.im; have a2 : ∀ o, (w2.alloc o).cell? ⟨w.heap.size, 2, none⟩ = some (.int .u8 x.kind.toNat) := (fun o => (H2.out.1.1.alloc o).cell 2); have a5 : ∀ o, (w2.alloc o).cell? ⟨w.heap.size, 5, none⟩ = some (.int .u32 x.mx.toNat) := (fun o => (H2.out.1.1.alloc o).cell 5); have a6 : ∀ o, (w2.alloc o).cell? ⟨w.heap.size, 6, none⟩ = some (.bool x.bd) := (fun o => (H2.out.1.1.alloc o).cell 6); have a7 : ∀ o, (w2.alloc o).cell? ⟨w.heap.size, 7, none⟩ = some (.int .u8 x.gt.toNat) := (fun o => (H2.out.1.1.alloc o).cell 7); have hbd := HBD.out))))
          all_goals
            go_ret
            exact ⟨rfl, (bx_bel H2.out).alloc (bx_bel H2.out).size _⟩
        · go_enter Tryd.func10, Tryd.ntmps10
          go_wp2_with (first
            | (go_at_call 48; go_must (first
              | ((with_reducible refine HC1.out.mono ?_); rintro e w1 ⟨rfl, hb⟩; have H1 := Lib.hid (bx_on H0.out hb); have k1 := H1.out.1.1.cell 1; simp only [List.getElem?_toArray, List.getElem?_cons_zero, List.getElem?_cons_succ] at k1; clear hb)
              | ((with_reducible refine (HC2.out _).mono ?_); rintro e w2 ⟨rfl, hb⟩; have H2 := Lib.hid (bx_on H1.out hb); clear hb k1; obtain ⟨c0, c1, c2, c3, c4, c5, c6, c7, c8⟩ := H2.out.1.1.im; have a2 : ∀ o, (w2.alloc o).cell? ⟨w.heap.size, 2, none⟩ = some (.int .u8 x.kind.toNat) := (fun o => (H2.out.1.1.alloc o).cell 2); have a5 : ∀ o, (w2.alloc o).cell? ⟨w.heap.size, 5, none⟩ = some (.int .u32 x.mx.toNat) := (fun o => (H2.out.1.1.alloc o).cell 5); have a6 : ∀ o, (w2.alloc o).cell? ⟨w.heap.size, 6, none⟩ = some (.bool x.bd) := (fun o => (H2.out.1.1.alloc o).cell 6); have a7 : ∀ o, (w2.alloc o).cell? ⟨w.heap.size, 7, none⟩ = some (.int .u8 x.gt.toNat) := (fun o => (H2.out.1.1.alloc o).cell 7); have hbd := HBD.out))))
          all_goals
            go_ret
            exact ⟨rfl, (bx_bel H2.out).alloc (bx_bel H2.out).size _⟩
    · have hG : ∀ W, _ := hmg (decide_eq_false eG)
      rw [if_pos (.inl (fun h => eG (ho.1 h).2))]
      clear eG eT ho q0 q3 k3 hml hmg
      rcases hk12 with rfl | ⟨rfl, rfl⟩
      · go_enter Tryd.func10, Tryd.ntmps10
        go_wp2_with (first
          | (go_at_call 48; go_must (first
            | ((with_reducible refine HC1.out.mono ?_); rintro e w1 ⟨rfl, hb⟩; have H1 := Lib.hid (bx_on H0.out hb); have k1 := H1.out.1.1.cell 1; simp only [List.getElem?_toArray, List.getElem?_cons_zero, List.getElem?_cons_succ] at k1; clear hb)
            | ((with_reducible refine (HC2.out _).mono ?_); rintro e w2 ⟨rfl, hb⟩; have H2 := Lib.hid (bx_on H1.out hb); clear hb k1; obtain ⟨c0, c1, c2, c3, c4, c5, c6, c7, c8⟩ := H2.out.1.1.im; have a2 : ∀ o, (w2.alloc o).cell? ⟨w.heap.size, 2, none⟩ = some (.int .u8 x.kind.toNat) := (fun o => (H2.out.1.1.alloc o).cell 2); have a5 : ∀ o, (w2.alloc o).cell? ⟨w.heap.size, 5, none⟩ = some (.int .u32 x.mx.toNat) := (fun o => (H2.out.1.1.alloc o).cell 5); have a6 : ∀ o, (w2.alloc o).cell? ⟨w.heap.size, 6, none⟩ = some (.bool x.bd) := (fun o => (H2.out.1.1.alloc o).cell 6); have a7 : ∀ o, (w2.alloc o).cell? ⟨w.heap.size, 7, none⟩ = some (.int .u8 x.gt.toNat) := (fun o => (H2.out.1.1.alloc o).cell 7)))))
        all_goals
          go_ret
          exact ⟨rfl, (bx_bel H2.out).alloc (bx_bel H2.out).size _⟩
      · go_enter Tryd.func10, Tryd.ntmps10
        go_wp2_with (first
          | (go_at_call 48; go_must (first
            | ((with_reducible refine HC1.out.mono ?_); rintro e w1 ⟨rfl, hb⟩; have H1 := Lib.hid (bx_on H0.out hb); have k1 := H1.out.1.1.cell 1; simp only [List.getElem?_toArray, List.getElem?_cons_zero, List.getElem?_cons_succ] at k1; clear hb)
            | ((with_reducible refine (HC2.out _).mono ?_); rintro e w2 ⟨rfl, hb⟩; have H2 := Lib.hid (bx_on H1.out hb); clear hb k1; obtain ⟨c0, c1, c2, c3, c4, c5, c6, c7, c8⟩ := H2.out.1.1.im; have a2 : ∀ o, (w2.alloc o).cell? ⟨w.heap.size, 2, none⟩ = some (.int .u8 x.kind.toNat) := (fun o => (H2.out.1.1.alloc o).cell 2); have a5 : ∀ o, (w2.alloc o).cell? ⟨w.heap.size, 5, none⟩ = some (.int .u32 x.mx.toNat) := (fun o => (H2.out.1.1.alloc o).cell 5); have a6 : ∀ o, (w2.alloc o).cell? ⟨w.heap.size, 6, none⟩ = some (.bool x.bd) := (fun o => (H2.out.1.1.alloc o).cell 6); have a7 : ∀ o, (w2.alloc o).cell? ⟨w.heap.size, 7, none⟩ = some (.int .u8 x.gt.toNat) := (fun o => (H2.out.1.1.alloc o).cell 7)))))
        all_goals
          go_ret
          exact ⟨rfl, (bx_bel H2.out).alloc (bx_bel H2.out).size _⟩
  · have hty : ((x.typ.toNat : Int) != 0) = true := nb_of (by simp; exact fun h => eT (z32.1 (by omega)))
    rw [if_pos (.inl (fun h => eT (ho.1 h).1))]
    clear eT ho q0 q3 k3 hml hmg
    rcases hk12 with rfl | ⟨rfl, rfl⟩
    · go_enter Tryd.func10, Tryd.ntmps10
      go_wp2_with (first
        | (go_at_call 48; go_must (first
          | ((with_reducible refine HC1.out.mono ?_); rintro e w1 ⟨rfl, hb⟩; have H1 := Lib.hid (bx_on H0.out hb); have k1 := H1.out.1.1.cell 1; simp only [List.getElem?_toArray, List.getElem?_cons_zero, List.getElem?_cons_succ] at k1; clear hb)
          | ((with_reducible refine (HC2.out _).mono ?_); rintro e w2 ⟨rfl, hb⟩; have H2 := Lib.hid (bx_on H1.out hb); clear hb k1; obtain ⟨c0, c1, c2, c3, c4, c5, c6, c7, c8⟩ := H2.out.1.1.im; have a2 : ∀ o, (w2.alloc o).cell? ⟨w.heap.size, 2, none⟩ = some (.int .u8 x.kind.toNat) := (fun o => (H2.out.1.1.alloc o).cell 2); have a5 : ∀ o, (w2.alloc o).cell? ⟨w.heap.size, 5, none⟩ = some (.int .u32 x.mx.toNat) := (fun o => (H2.out.1.1.alloc o).cell 5); have a6 : ∀ o, (w2.alloc o).cell? ⟨w.heap.size, 6, none⟩ = some (.bool x.bd) := (fun o => (H2.out.1.1.alloc o).cell 6); have a7 : ∀ o, (w2.alloc o).cell? ⟨w.heap.size, 7, none⟩ = some (.int .u8 x.gt.toNat) := (fun o => (H2.out.1.1.alloc o).cell 7)))))
      all_goals
        go_ret
        exact ⟨rfl, (bx_bel H2.out).alloc (bx_bel H2.out).size _⟩
    · go_enter Tryd.func10, Tryd.ntmps10
      go_wp2_with (first
        | (go_at_call 48; go_must (first
          | ((with_reducible refine HC1.out.mono ?_); rintro e w1 ⟨rfl, hb⟩; have H1 := Lib.hid (bx_on H0.out hb); have k1 := H1.out.1.1.cell 1; simp only [List.getElem?_toArray, List.getElem?_cons_zero, List.getElem?_cons_succ] at k1; clear hb)
          | ((with_reducible refine (HC2.out _).mono ?_); rintro e w2 ⟨rfl, hb⟩; have H2 := Lib.hid (bx_on H1.out hb); clear hb k1; obtain ⟨c0, c1, c2, c3, c4, c5, c6, c7, c8⟩ := H2.out.1.1.im; have a2 : ∀ o, (w2.alloc o).cell? ⟨w.heap.size, 2, none⟩ = some (.int .u8 x.kind.toNat) := (fun o => (H2.out.1.1.alloc o).cell 2); have a5 : ∀ o, (w2.alloc o).cell? ⟨w.heap.size, 5, none⟩ = some (.int .u32 x.mx.toNat) := (fun o => (H2.out.1.1.alloc o).cell 5); have a6 : ∀ o, (w2.alloc o).cell? ⟨w.heap.size, 6, none⟩ = some (.bool x.bd) := (fun o => (H2.out.1.1.alloc o).cell 6); have a7 : ∀ o, (w2.alloc o).cell? ⟨w.heap.size, 7, none⟩ = some (.int .u8 x.gt.toNat) := (fun o => (H2.out.1.1.alloc o).cell 7)))))
      all_goals
        go_ret
        exact ⟨rfl, (bx_bel H2.out).alloc (bx_bel H2.out).size _⟩
set_option maxHeartbeats 2000000 in
theorem rright_im (x : Im) (w : World) (h1 : x.mod.length ≤ 1000000) (h2 : x.nam.length ≤ 1000000) :
    Calls Tryd.prog 10 #[imV x] w fun e w' => e = .returned (.int .i64 (rZ x)) ∧ Below w.heap.size w w' := by
  by_cases z1 : checkZ x.mod = 0
  · by_cases z2 : checkZ x.nam = 0
    · by_cases k3 : 3 < x.kind.toNat
      · have hr : rZ x = 43 := by unfold rZ; rw [if_neg (by simpa using z1), if_neg (by simpa using z2), if_pos k3]
        have HC1 := Lib.hid (rcheck_im x.mod (w.alloc (.cells (imC x) 28)) h1)
        have HC2 := Lib.hid (fun W => rcheck_im x.nam W h2)
        rw [z1] at HC1
        rw [z2] at HC2
        have H0 := Lib.hid (bx_start w x)
        rw [hr]
        have d3 : decide ((3 : Int) < (x.kind.toNat : Int)) = true := decide_eq_true (by omega)
        clear hr k3 z1 z2 h1 h2
        go_enter Tryd.func10, Tryd.ntmps10
        go_wp2_with (go_at_call 48; go_must (first
          | ((with_reducible refine HC1.out.mono ?_); rintro e w1 ⟨rfl, hb⟩; have H1 := Lib.hid (bx_on H0.out hb); have k1 := H1.out.1.1.cell 1; simp only [List.getElem?_toArray, List.getElem?_cons_zero, List.getElem?_cons_succ] at k1; clear hb)
          | ((with_reducible refine (HC2.out _).mono ?_); rintro e w2 ⟨rfl, hb⟩; have H2 := Lib.hid (bx_on H1.out hb); clear hb k1; obtain ⟨c0, c1, c2, c3, c4, c5, c6, c7, c8⟩ := H2.out.1.1.im)))
        go_ret
        exact ⟨rfl, bx_bel H2.out⟩
      · exact rright_ok x w h1 h2 z1 z2 k3
    · have hr : rZ x = checkZ x.nam := by unfold rZ; rw [if_neg (by simpa using z1), if_pos z2]
      have HC1 := Lib.hid (rcheck_im x.mod (w.alloc (.cells (imC x) 28)) h1)
      have HC2 := Lib.hid (fun W => rcheck_im x.nam W h2)
      rw [z1] at HC1
      have H0 := Lib.hid (bx_start w x)
      rw [hr]
      have d3 : (checkZ x.nam != 0) = true := zb_of (by simpa using z2)
      clear hr z1 z2 h1 h2
      generalize checkZ x.nam = z at *
      go_enter Tryd.func10, Tryd.ntmps10
      go_wp2_with (go_at_call 48; go_must (first
          | ((with_reducible refine HC1.out.mono ?_); rintro e w1 ⟨rfl, hb⟩; have H1 := Lib.hid (bx_on H0.out hb); have k1 := H1.out.1.1.cell 1; simp only [List.getElem?_toArray, List.getElem?_cons_zero, List.getElem?_cons_succ] at k1; clear hb)
          | ((with_reducible refine (HC2.out _).mono ?_); rintro e w2 ⟨rfl, hb⟩; have H2 := Lib.hid (bx_on H1.out hb); clear hb k1)))
      go_ret
      exact ⟨rfl, bx_bel H2.out⟩
  · have hr : rZ x = checkZ x.mod := by unfold rZ; rw [if_pos z1]
    have HC1 := Lib.hid (rcheck_im x.mod (w.alloc (.cells (imC x) 28)) h1)
    have H0 := Lib.hid (bx_start w x)
    rw [hr]
    have d3 : (checkZ x.mod != 0) = true := zb_of (by simpa using z1)
    clear hr z1 h1 h2
    generalize checkZ x.mod = z at *
    go_enter Tryd.func10, Tryd.ntmps10
    go_wp2_with (go_at_call 48; go_must ((with_reducible refine HC1.out.mono ?_); rintro e w1 ⟨rfl, hb⟩; have H1 := Lib.hid (bx_on H0.out hb); clear hb))
    go_ret
    exact ⟨rfl, bx_bel H1.out⟩
end Go.Proofs.YtapgfapplafepaaDoor
