/- quotient, bit of creelref19. (By gen/genBt.py.) -/
import Derived.Test.YtjgdfajooccalaaZc05
namespace Go.Proofs.Ytjgdfajooccalaa
open Go.RowKit
set_option linter.unusedVariables false
set_option maxRecDepth 100000

set_option maxHeartbeats 8000000 in
theorem quotientw {w : World} {A B : Option Addr} {c d : Nat} {a b : List Bool} (k : Nat) (hk : k < 4) (ha : LB w A a) (hb : LB w B b) (na : a.length = 64) (nb : b.length = 64) :
    Calls Try.prog 23 #[.int .i64 k, .slice A 64 c, .slice B 64 d] w fun e w' => e = .returned (.tuple #[.int .u64 (quoL 64 k a b).1, .int .i64 (quoL 64 k a b).2]) ∧ Below w.heap.size w w' := by
  have HNb := Lib.hid (numberw (c := d) hb nb)
  by_cases h0 : numL b = 0
  · have hq : quoL 64 k a b = (0, 61) := by unfold quoL; rw [if_pos h0]
    rw [hq]
    rw [h0] at HNb
    clear hq h0 ha hb
    go_enter Try.func23, Try.ntmps23
    go_wp2_with (go_at_call 19; go_must ((with_reducible refine HNb.out.mono ?_); rintro e w1 ⟨rfl, rfl⟩))
    go_ret2
    exact ⟨rfl, Below.refl _ _⟩
  obtain ⟨x, hx⟩ : ∃ x, a[63]? = some x := ⟨_, List.getElem?_eq_getElem (by omega)⟩
  obtain ⟨y, hy⟩ : ∃ y, b[63]? = some y := ⟨_, List.getElem?_eq_getElem (by omega)⟩
  have gx : a.getD (64 - 1) false = x := by rw [List.getD_eq_getElem?_getD, show 64 - 1 = 63 from rfl, hx]; rfl
  have gy : b.getD (64 - 1) false = y := by rw [List.getD_eq_getElem?_getD, show 64 - 1 = 63 from rfl, hy]; rfl
  have hq : quoL 64 k a b = quoT 64 k x y (quoP 64 k a b) := by unfold quoL; rw [if_neg h0, gx, gy]
  rw [hq]
  have d0 : ((numL b : Int) == 0) = false := by simp; omega
  obtain ⟨bl, off, rfl, hbl, ca⟩ := ha.at hx
  obtain ⟨bl2, off2, rfl, hbl2, cb⟩ := hb.at hy
  obtain ⟨⟨p, r⟩, hst⟩ : ∃ st, st = divK 64 a b 64 := ⟨_, rfl⟩
  obtain ⟨⟨sp, sr⟩, hss⟩ : ∃ st, st = signedL 64 a b := ⟨_, rfl⟩
  have hln : p.length = 64 ∧ r.length = 64 := by
    have := divK_len (n := 64) (a := a) (b := b) nb 64
    rw [← hst] at this
    exact this
  have hls : sp.length = 64 ∧ sr.length = 64 := by
    obtain ⟨⟨u, v⟩, huv⟩ : ∃ st, st = divK 64 (sgnL 64 a) (sgnL 64 b) 64 := ⟨_, rfl⟩
    have h1 := divK_len (n := 64) (a := sgnL 64 a) (b := sgnL 64 b) (by rw [sgnL_len]; exact nb) 64
    rw [← huv] at h1
    have h2 : (sp, sr) = signedS (a.getD (64 - 1) false) (b.getD (64 - 1) false) (u, v) := by rw [hss]; unfold signedL; rw [← huv]
    have h3 := signedS_len (x := a.getD (64 - 1) false) (y := b.getD (64 - 1) false) h1.1 h1.2
    rw [← h2] at h3
    exact h3
  have hqp : quoP 64 k a b = if k % 2 = 0 then (sp, sr) else (p, r) := by unfold quoP; rw [← hst, ← hss]
  rw [hqp]
  obtain ⟨z, hz⟩ : ∃ z, sp[63]? = some z := ⟨_, List.getElem?_eq_getElem (by omega)⟩
  have gz : sp.getD (64 - 1) false = z := by rw [List.getD_eq_getElem?_getD, show 64 - 1 = 63 from rfl, hz]; rfl
  have HDv := Lib.hid (show Calls Try.prog 44 #[.slice (some ⟨bl, off, none⟩) 64 c, .slice (some ⟨bl2, off2, none⟩) 64 d] w (fun e w' => ∃ A1 c1 A2 c2, e = .returned (.tuple #[.slice A1 64 c1, .slice A2 64 c2]) ∧ OB w' w.heap.size A1 p ∧ OB w' w.heap.size A2 r ∧ Below w.heap.size w w') from by
    have := dividew (c := c) (d := d) ha hb na nb
    rw [← hst] at this
    exact this)
  have HSg := Lib.hid (fun W (hb9 : Below w.heap.size w W) => show Calls Try.prog 45 #[.slice (some ⟨bl, off, none⟩) 64 c, .slice (some ⟨bl2, off2, none⟩) 64 d] W (fun e w' => ∃ A1 c1 A2 c2, e = .returned (.tuple #[.slice A1 64 c1, .slice A2 64 c2]) ∧ OB w' W.heap.size A1 sp ∧ OB w' W.heap.size A2 sr ∧ Below W.heap.size W w') from by
    have := signedw (c := c) (d := d) (ha.below hb9) (hb.below hb9) na nb
    rw [← hss] at this
    exact this)
  have HN1 := Lib.hid (fun W A1 c1 (h : LB W A1 p) => numberw (c := c1) h hln.1)
  have HN2 := Lib.hid (fun W A1 c1 (h : LB W A1 r) => numberw (c := c1) h hln.2)
  have HN3 := Lib.hid (fun W A1 c1 (h : LB W A1 sp) => numberw (c := c1) h hls.1)
  have HN4 := Lib.hid (fun W A1 c1 (h : LB W A1 sr) => numberw (c := c1) h hls.2)
  clear ha hb hx hy gx gy hq hqp hst hss h0
  match k, hk with
  | 0, _ =>
    have HV := Lib.hid (show quoT 64 0 x y (if 0 % 2 = 0 then (sp, sr) else (p, r)) = if (x && y && z) = true then (0, 62) else (numL sp, 0) by
      unfold quoT; rw [if_pos (by rfl : 0 % 2 = 0)]; show (if 0 = 0 ∧ x = true ∧ y = true ∧ sp.getD (64 - 1) false = true then _ else _) = _; rw [gz]; cases x <;> cases y <;> cases z <;> simp)
    rw [HV.out]
    clear HV gz
    cases x <;> cases y <;> cases z
    · as_aux_lemma =>
        go_enter Try.func23, Try.ntmps23
        go_wp2_with (first
          | (go_at_call 19; (with_reducible refine HNb.out.mono ?_); rintro e w1 ⟨rfl, rfl⟩)
          | (go_at_call 44; go_must ((with_reducible refine HDv.out.mono ?_); rintro e w2 ⟨A1, c1, A2, c2, rfl, ho1, ho2, hb2⟩; have HB2 := Lib.hid hb2; have HO1 := Lib.hid ho1; have HO2 := Lib.hid ho2; have qa2 := (hb2.cell (p := ⟨bl, off + 63, none⟩) hbl).trans ca; have qb2 := (hb2.cell (p := ⟨bl2, off2 + 63, none⟩) hbl2).trans cb; clear ho1 ho2 hb2))
          | (go_at_call 45; go_must ((with_reducible refine (HSg.out _ HB2.out).mono ?_); rintro e w3 ⟨A3, c3, A4, c4, rfl, ho3, ho4, hb3⟩; have HB3 := Lib.hid (HB2.out.trans (hb3.mono HB2.out.size)); obtain ⟨g3, rfl, _, _, qz3, _⟩ := ho3.at hz; have HO3 := Lib.hid ho3; have HO4 := Lib.hid ho4; have qa3 := (HB3.out.cell (p := ⟨bl, off + 63, none⟩) hbl).trans ca; have qb3 := (HB3.out.cell (p := ⟨bl2, off2 + 63, none⟩) hbl2).trans cb; clear ho3 ho4 hb3))
          | (go_at_call 19; (with_reducible refine (HN3.out _ _ _ HO3.out.lb).mono ?_); rintro e w9 ⟨rfl, rfl⟩))
        go_ret2
        exact ⟨by rfl, HB3.out⟩
    · as_aux_lemma =>
        go_enter Try.func23, Try.ntmps23
        go_wp2_with (first
          | (go_at_call 19; (with_reducible refine HNb.out.mono ?_); rintro e w1 ⟨rfl, rfl⟩)
          | (go_at_call 44; go_must ((with_reducible refine HDv.out.mono ?_); rintro e w2 ⟨A1, c1, A2, c2, rfl, ho1, ho2, hb2⟩; have HB2 := Lib.hid hb2; have HO1 := Lib.hid ho1; have HO2 := Lib.hid ho2; have qa2 := (hb2.cell (p := ⟨bl, off + 63, none⟩) hbl).trans ca; have qb2 := (hb2.cell (p := ⟨bl2, off2 + 63, none⟩) hbl2).trans cb; clear ho1 ho2 hb2))
          | (go_at_call 45; go_must ((with_reducible refine (HSg.out _ HB2.out).mono ?_); rintro e w3 ⟨A3, c3, A4, c4, rfl, ho3, ho4, hb3⟩; have HB3 := Lib.hid (HB2.out.trans (hb3.mono HB2.out.size)); obtain ⟨g3, rfl, _, _, qz3, _⟩ := ho3.at hz; have HO3 := Lib.hid ho3; have HO4 := Lib.hid ho4; have qa3 := (HB3.out.cell (p := ⟨bl, off + 63, none⟩) hbl).trans ca; have qb3 := (HB3.out.cell (p := ⟨bl2, off2 + 63, none⟩) hbl2).trans cb; clear ho3 ho4 hb3))
          | (go_at_call 19; (with_reducible refine (HN3.out _ _ _ HO3.out.lb).mono ?_); rintro e w9 ⟨rfl, rfl⟩))
        go_ret2
        exact ⟨by rfl, HB3.out⟩
    · as_aux_lemma =>
        go_enter Try.func23, Try.ntmps23
        go_wp2_with (first
          | (go_at_call 19; (with_reducible refine HNb.out.mono ?_); rintro e w1 ⟨rfl, rfl⟩)
          | (go_at_call 44; go_must ((with_reducible refine HDv.out.mono ?_); rintro e w2 ⟨A1, c1, A2, c2, rfl, ho1, ho2, hb2⟩; have HB2 := Lib.hid hb2; have HO1 := Lib.hid ho1; have HO2 := Lib.hid ho2; have qa2 := (hb2.cell (p := ⟨bl, off + 63, none⟩) hbl).trans ca; have qb2 := (hb2.cell (p := ⟨bl2, off2 + 63, none⟩) hbl2).trans cb; clear ho1 ho2 hb2))
          | (go_at_call 45; go_must ((with_reducible refine (HSg.out _ HB2.out).mono ?_); rintro e w3 ⟨A3, c3, A4, c4, rfl, ho3, ho4, hb3⟩; have HB3 := Lib.hid (HB2.out.trans (hb3.mono HB2.out.size)); obtain ⟨g3, rfl, _, _, qz3, _⟩ := ho3.at hz; have HO3 := Lib.hid ho3; have HO4 := Lib.hid ho4; have qa3 := (HB3.out.cell (p := ⟨bl, off + 63, none⟩) hbl).trans ca; have qb3 := (HB3.out.cell (p := ⟨bl2, off2 + 63, none⟩) hbl2).trans cb; clear ho3 ho4 hb3))
          | (go_at_call 19; (with_reducible refine (HN3.out _ _ _ HO3.out.lb).mono ?_); rintro e w9 ⟨rfl, rfl⟩))
        go_ret2
        exact ⟨by rfl, HB3.out⟩
    · as_aux_lemma =>
        go_enter Try.func23, Try.ntmps23
        go_wp2_with (first
          | (go_at_call 19; (with_reducible refine HNb.out.mono ?_); rintro e w1 ⟨rfl, rfl⟩)
          | (go_at_call 44; go_must ((with_reducible refine HDv.out.mono ?_); rintro e w2 ⟨A1, c1, A2, c2, rfl, ho1, ho2, hb2⟩; have HB2 := Lib.hid hb2; have HO1 := Lib.hid ho1; have HO2 := Lib.hid ho2; have qa2 := (hb2.cell (p := ⟨bl, off + 63, none⟩) hbl).trans ca; have qb2 := (hb2.cell (p := ⟨bl2, off2 + 63, none⟩) hbl2).trans cb; clear ho1 ho2 hb2))
          | (go_at_call 45; go_must ((with_reducible refine (HSg.out _ HB2.out).mono ?_); rintro e w3 ⟨A3, c3, A4, c4, rfl, ho3, ho4, hb3⟩; have HB3 := Lib.hid (HB2.out.trans (hb3.mono HB2.out.size)); obtain ⟨g3, rfl, _, _, qz3, _⟩ := ho3.at hz; have HO3 := Lib.hid ho3; have HO4 := Lib.hid ho4; have qa3 := (HB3.out.cell (p := ⟨bl, off + 63, none⟩) hbl).trans ca; have qb3 := (HB3.out.cell (p := ⟨bl2, off2 + 63, none⟩) hbl2).trans cb; clear ho3 ho4 hb3))
          | (go_at_call 19; (with_reducible refine (HN3.out _ _ _ HO3.out.lb).mono ?_); rintro e w9 ⟨rfl, rfl⟩))
        go_ret2
        exact ⟨by rfl, HB3.out⟩
    · as_aux_lemma =>
        go_enter Try.func23, Try.ntmps23
        go_wp2_with (first
          | (go_at_call 19; (with_reducible refine HNb.out.mono ?_); rintro e w1 ⟨rfl, rfl⟩)
          | (go_at_call 44; go_must ((with_reducible refine HDv.out.mono ?_); rintro e w2 ⟨A1, c1, A2, c2, rfl, ho1, ho2, hb2⟩; have HB2 := Lib.hid hb2; have HO1 := Lib.hid ho1; have HO2 := Lib.hid ho2; have qa2 := (hb2.cell (p := ⟨bl, off + 63, none⟩) hbl).trans ca; have qb2 := (hb2.cell (p := ⟨bl2, off2 + 63, none⟩) hbl2).trans cb; clear ho1 ho2 hb2))
          | (go_at_call 45; go_must ((with_reducible refine (HSg.out _ HB2.out).mono ?_); rintro e w3 ⟨A3, c3, A4, c4, rfl, ho3, ho4, hb3⟩; have HB3 := Lib.hid (HB2.out.trans (hb3.mono HB2.out.size)); obtain ⟨g3, rfl, _, _, qz3, _⟩ := ho3.at hz; have HO3 := Lib.hid ho3; have HO4 := Lib.hid ho4; have qa3 := (HB3.out.cell (p := ⟨bl, off + 63, none⟩) hbl).trans ca; have qb3 := (HB3.out.cell (p := ⟨bl2, off2 + 63, none⟩) hbl2).trans cb; clear ho3 ho4 hb3))
          | (go_at_call 19; (with_reducible refine (HN3.out _ _ _ HO3.out.lb).mono ?_); rintro e w9 ⟨rfl, rfl⟩))
        go_ret2
        exact ⟨by rfl, HB3.out⟩
    · as_aux_lemma =>
        go_enter Try.func23, Try.ntmps23
        go_wp2_with (first
          | (go_at_call 19; (with_reducible refine HNb.out.mono ?_); rintro e w1 ⟨rfl, rfl⟩)
          | (go_at_call 44; go_must ((with_reducible refine HDv.out.mono ?_); rintro e w2 ⟨A1, c1, A2, c2, rfl, ho1, ho2, hb2⟩; have HB2 := Lib.hid hb2; have HO1 := Lib.hid ho1; have HO2 := Lib.hid ho2; have qa2 := (hb2.cell (p := ⟨bl, off + 63, none⟩) hbl).trans ca; have qb2 := (hb2.cell (p := ⟨bl2, off2 + 63, none⟩) hbl2).trans cb; clear ho1 ho2 hb2))
          | (go_at_call 45; go_must ((with_reducible refine (HSg.out _ HB2.out).mono ?_); rintro e w3 ⟨A3, c3, A4, c4, rfl, ho3, ho4, hb3⟩; have HB3 := Lib.hid (HB2.out.trans (hb3.mono HB2.out.size)); obtain ⟨g3, rfl, _, _, qz3, _⟩ := ho3.at hz; have HO3 := Lib.hid ho3; have HO4 := Lib.hid ho4; have qa3 := (HB3.out.cell (p := ⟨bl, off + 63, none⟩) hbl).trans ca; have qb3 := (HB3.out.cell (p := ⟨bl2, off2 + 63, none⟩) hbl2).trans cb; clear ho3 ho4 hb3))
          | (go_at_call 19; (with_reducible refine (HN3.out _ _ _ HO3.out.lb).mono ?_); rintro e w9 ⟨rfl, rfl⟩))
        go_ret2
        exact ⟨by rfl, HB3.out⟩
    · as_aux_lemma =>
        go_enter Try.func23, Try.ntmps23
        go_wp2_with (first
          | (go_at_call 19; (with_reducible refine HNb.out.mono ?_); rintro e w1 ⟨rfl, rfl⟩)
          | (go_at_call 44; go_must ((with_reducible refine HDv.out.mono ?_); rintro e w2 ⟨A1, c1, A2, c2, rfl, ho1, ho2, hb2⟩; have HB2 := Lib.hid hb2; have HO1 := Lib.hid ho1; have HO2 := Lib.hid ho2; have qa2 := (hb2.cell (p := ⟨bl, off + 63, none⟩) hbl).trans ca; have qb2 := (hb2.cell (p := ⟨bl2, off2 + 63, none⟩) hbl2).trans cb; clear ho1 ho2 hb2))
          | (go_at_call 45; go_must ((with_reducible refine (HSg.out _ HB2.out).mono ?_); rintro e w3 ⟨A3, c3, A4, c4, rfl, ho3, ho4, hb3⟩; have HB3 := Lib.hid (HB2.out.trans (hb3.mono HB2.out.size)); obtain ⟨g3, rfl, _, _, qz3, _⟩ := ho3.at hz; have HO3 := Lib.hid ho3; have HO4 := Lib.hid ho4; have qa3 := (HB3.out.cell (p := ⟨bl, off + 63, none⟩) hbl).trans ca; have qb3 := (HB3.out.cell (p := ⟨bl2, off2 + 63, none⟩) hbl2).trans cb; clear ho3 ho4 hb3))
          | (go_at_call 19; (with_reducible refine (HN3.out _ _ _ HO3.out.lb).mono ?_); rintro e w9 ⟨rfl, rfl⟩))
        go_ret2
        exact ⟨by rfl, HB3.out⟩
    · as_aux_lemma =>
        go_enter Try.func23, Try.ntmps23
        go_wp2_with (first
          | (go_at_call 19; (with_reducible refine HNb.out.mono ?_); rintro e w1 ⟨rfl, rfl⟩)
          | (go_at_call 44; go_must ((with_reducible refine HDv.out.mono ?_); rintro e w2 ⟨A1, c1, A2, c2, rfl, ho1, ho2, hb2⟩; have HB2 := Lib.hid hb2; have HO1 := Lib.hid ho1; have HO2 := Lib.hid ho2; have qa2 := (hb2.cell (p := ⟨bl, off + 63, none⟩) hbl).trans ca; have qb2 := (hb2.cell (p := ⟨bl2, off2 + 63, none⟩) hbl2).trans cb; clear ho1 ho2 hb2))
          | (go_at_call 45; go_must ((with_reducible refine (HSg.out _ HB2.out).mono ?_); rintro e w3 ⟨A3, c3, A4, c4, rfl, ho3, ho4, hb3⟩; have HB3 := Lib.hid (HB2.out.trans (hb3.mono HB2.out.size)); obtain ⟨g3, rfl, _, _, qz3, _⟩ := ho3.at hz; have HO3 := Lib.hid ho3; have HO4 := Lib.hid ho4; have qa3 := (HB3.out.cell (p := ⟨bl, off + 63, none⟩) hbl).trans ca; have qb3 := (HB3.out.cell (p := ⟨bl2, off2 + 63, none⟩) hbl2).trans cb; clear ho3 ho4 hb3))
          | (go_at_call 19; (with_reducible refine (HN3.out _ _ _ HO3.out.lb).mono ?_); rintro e w9 ⟨rfl, rfl⟩))
        go_ret2
        exact ⟨by rfl, HB3.out⟩
  | 1, _ =>
    have HV := Lib.hid (show quoT 64 1 x y (if 1 % 2 = 0 then (sp, sr) else (p, r)) = (numL p, 0) from rfl)
    rw [HV.out]
    clear HV gz
    as_aux_lemma =>
      go_enter Try.func23, Try.ntmps23
      go_wp2_with (first
        | (go_at_call 19; (with_reducible refine HNb.out.mono ?_); rintro e w1 ⟨rfl, rfl⟩)
        | (go_at_call 44; go_must ((with_reducible refine HDv.out.mono ?_); rintro e w2 ⟨A1, c1, A2, c2, rfl, ho1, ho2, hb2⟩; have HB2 := Lib.hid hb2; have HO1 := Lib.hid ho1; have HO2 := Lib.hid ho2; have qa2 := (hb2.cell (p := ⟨bl, off + 63, none⟩) hbl).trans ca; have qb2 := (hb2.cell (p := ⟨bl2, off2 + 63, none⟩) hbl2).trans cb; clear ho1 ho2 hb2))
        | (go_at_call 19; (with_reducible refine (HN1.out _ _ _ HO1.out.lb).mono ?_); rintro e w9 ⟨rfl, rfl⟩))
      go_ret2
      exact ⟨by rfl, HB2.out⟩
  | 2, _ =>
    have HV := Lib.hid (show quoT 64 2 x y (if 2 % 2 = 0 then (sp, sr) else (p, r)) = (numL sr, 0) from rfl)
    rw [HV.out]
    clear HV gz
    as_aux_lemma =>
      go_enter Try.func23, Try.ntmps23
      go_wp2_with (first
        | (go_at_call 19; (with_reducible refine HNb.out.mono ?_); rintro e w1 ⟨rfl, rfl⟩)
        | (go_at_call 44; go_must ((with_reducible refine HDv.out.mono ?_); rintro e w2 ⟨A1, c1, A2, c2, rfl, ho1, ho2, hb2⟩; have HB2 := Lib.hid hb2; have HO1 := Lib.hid ho1; have HO2 := Lib.hid ho2; have qa2 := (hb2.cell (p := ⟨bl, off + 63, none⟩) hbl).trans ca; have qb2 := (hb2.cell (p := ⟨bl2, off2 + 63, none⟩) hbl2).trans cb; clear ho1 ho2 hb2))
        | (go_at_call 45; go_must ((with_reducible refine (HSg.out _ HB2.out).mono ?_); rintro e w3 ⟨A3, c3, A4, c4, rfl, ho3, ho4, hb3⟩; have HB3 := Lib.hid (HB2.out.trans (hb3.mono HB2.out.size)); obtain ⟨g3, rfl, _, _, qz3, _⟩ := ho3.at hz; have HO3 := Lib.hid ho3; have HO4 := Lib.hid ho4; have qa3 := (HB3.out.cell (p := ⟨bl, off + 63, none⟩) hbl).trans ca; have qb3 := (HB3.out.cell (p := ⟨bl2, off2 + 63, none⟩) hbl2).trans cb; clear ho3 ho4 hb3))
        | (go_at_call 19; (with_reducible refine (HN4.out _ _ _ HO4.out.lb).mono ?_); rintro e w9 ⟨rfl, rfl⟩))
      go_ret2
      exact ⟨by rfl, HB3.out⟩
  | 3, _ =>
    have HV := Lib.hid (show quoT 64 3 x y (if 3 % 2 = 0 then (sp, sr) else (p, r)) = (numL r, 0) from rfl)
    rw [HV.out]
    clear HV gz
    as_aux_lemma =>
      go_enter Try.func23, Try.ntmps23
      go_wp2_with (first
        | (go_at_call 19; (with_reducible refine HNb.out.mono ?_); rintro e w1 ⟨rfl, rfl⟩)
        | (go_at_call 44; go_must ((with_reducible refine HDv.out.mono ?_); rintro e w2 ⟨A1, c1, A2, c2, rfl, ho1, ho2, hb2⟩; have HB2 := Lib.hid hb2; have HO1 := Lib.hid ho1; have HO2 := Lib.hid ho2; have qa2 := (hb2.cell (p := ⟨bl, off + 63, none⟩) hbl).trans ca; have qb2 := (hb2.cell (p := ⟨bl2, off2 + 63, none⟩) hbl2).trans cb; clear ho1 ho2 hb2))
        | (go_at_call 19; (with_reducible refine (HN2.out _ _ _ HO2.out.lb).mono ?_); rintro e w9 ⟨rfl, rfl⟩))
      go_ret2
      exact ⟨by rfl, HB2.out⟩
end Go.Proofs.Ytjgdfajooccalaa

/- bit, Compare of creelref19. (By gen/genBt.py.) -/
namespace Go.Proofs.Ytjgdfajooccalaa
open Go.RowKit
set_option linter.unusedVariables false
set_option maxRecDepth 100000

set_option maxHeartbeats 4000000 in
theorem bitw0 {w : World} {A B : Option Addr} {c d : Nat} {a b : List Bool} (ha : LB w A a) (hb : LB w B b) (na : a.length = 64) (nb : b.length = 64) :
    Calls Try.prog 24 #[.int .i64 0, .slice A 64 c, .slice B 64 d] w fun e w' => e = .returned (.int .u64 (numL (bopL 0 a b))) ∧ Below w.heap.size w w' := by
  have HA := Lib.hid ha
  have HB := Lib.hid hb
  have HAL := Lib.hid (bopL_len (k := 0) (a := a) (b := b) (by omega))
  clear ha hb
  go_enter Try.func24, Try.ntmps24
  go_wp2
  go_loopw [7, 8] (fun o i wr => ∃ k : Nat, k ≤ 64 ∧ i = .int .i64 k ∧ RowB wr w.heap.size o ((bopL 0 a b).take k) ∧ Below w.heap.size w wr) (fun _ i _ => 64 - (intOf i).toNat)
  case atStart => exact ⟨0, Nat.zero_le _, rfl, RowB.nil _ _, Below.refl _ _⟩
  case round =>
    obtain ⟨k, hk, rfl, hr, hbw⟩ := hrel
    have hz := hbw.size
    by_cases hlt : k < 64
    · obtain ⟨x, hx⟩ : ∃ x, a[k]? = some x := ⟨_, List.getElem?_eq_getElem (by omega)⟩
      obtain ⟨y, hy⟩ : ∃ y, b[k]? = some y := ⟨_, List.getElem?_eq_getElem (by omega)⟩
      obtain ⟨bl, off, rfl, hbl, hc1⟩ := HA.out.at hx
      obtain ⟨bl2, off2, rfl, hbl2, hc2⟩ := HB.out.at hy
      have hc1 := (hbw.cell (p := ⟨bl, off + k, none⟩) hbl).trans hc1
      have hc2 := (hbw.cell (p := ⟨bl2, off2 + k, none⟩) hbl2).trans hc2
      have hd := bopL_get (k := 0) hx hy
      have hlen : ((bopL 0 a b).take k).length ≤ 1000 := by rw [List.length_take]; omega
      obtain ⟨acc, hacc⟩ : ∃ acc, acc = (bopL 0 a b).take k := ⟨_, rfl⟩
      rw [← hacc] at hd hr hlen
      clear hx hy hacc
      cases x <;> cases y
      · have HD := Lib.hid (show (bopL 0 a b).take (k + 1) = acc ++ [false] from hd)
        clear hd
        have HR2 := Lib.hid (hr.later (below_box wr (.cells #[.bool false] 4)))
        have HB2 := Lib.hid (hbw.alloc hz (.cells #[.bool false] 4))
        have HX := Lib.hid (Whole.made wr 4 #[.bool false])
        have hsz : (wr.alloc (.cells #[.bool false] 4)).heap.size = wr.heap.size + 1 := size_box _ _
        clear hr hbw
        go_wp2_with (at_builtin; (refine rowB_new rfl _ _ rfl w.heap.size _ acc rfl HR2.out wr.heap.size _ rfl HX.out (by omega) (by rw [hsz]; omega) ?_; intro v5 w5 hr5 hb5; have HR5 := Lib.hid hr5; have HB5 := Lib.hid (HB2.out.trans hb5); clear hr5 hb5))
        go_roundw
        case rel => exact ⟨k + 1, by omega, by go_num, by rw [HD.out]; exact HR5.out, HB5.out⟩
        case measure => simp [intOf]; omega
      · have HD := Lib.hid (show (bopL 0 a b).take (k + 1) = acc ++ [false] from hd)
        clear hd
        have HR2 := Lib.hid (hr.later (below_box wr (.cells #[.bool false] 4)))
        have HB2 := Lib.hid (hbw.alloc hz (.cells #[.bool false] 4))
        have HX := Lib.hid (Whole.made wr 4 #[.bool false])
        have hsz : (wr.alloc (.cells #[.bool false] 4)).heap.size = wr.heap.size + 1 := size_box _ _
        clear hr hbw
        go_wp2_with (at_builtin; (refine rowB_new rfl _ _ rfl w.heap.size _ acc rfl HR2.out wr.heap.size _ rfl HX.out (by omega) (by rw [hsz]; omega) ?_; intro v5 w5 hr5 hb5; have HR5 := Lib.hid hr5; have HB5 := Lib.hid (HB2.out.trans hb5); clear hr5 hb5))
        go_roundw
        case rel => exact ⟨k + 1, by omega, by go_num, by rw [HD.out]; exact HR5.out, HB5.out⟩
        case measure => simp [intOf]; omega
      · have HD := Lib.hid (show (bopL 0 a b).take (k + 1) = acc ++ [false] from hd)
        clear hd
        have HR2 := Lib.hid (hr.later (below_box wr (.cells #[.bool false] 4)))
        have HB2 := Lib.hid (hbw.alloc hz (.cells #[.bool false] 4))
        have HX := Lib.hid (Whole.made wr 4 #[.bool false])
        have hsz : (wr.alloc (.cells #[.bool false] 4)).heap.size = wr.heap.size + 1 := size_box _ _
        clear hr hbw
        go_wp2_with (at_builtin; (refine rowB_new rfl _ _ rfl w.heap.size _ acc rfl HR2.out wr.heap.size _ rfl HX.out (by omega) (by rw [hsz]; omega) ?_; intro v5 w5 hr5 hb5; have HR5 := Lib.hid hr5; have HB5 := Lib.hid (HB2.out.trans hb5); clear hr5 hb5))
        go_roundw
        case rel => exact ⟨k + 1, by omega, by go_num, by rw [HD.out]; exact HR5.out, HB5.out⟩
        case measure => simp [intOf]; omega
      · have HD := Lib.hid (show (bopL 0 a b).take (k + 1) = acc ++ [true] from hd)
        clear hd
        have HR2 := Lib.hid (hr.later (below_box wr (.cells #[.bool true] 4)))
        have HB2 := Lib.hid (hbw.alloc hz (.cells #[.bool true] 4))
        have HX := Lib.hid (Whole.made wr 4 #[.bool true])
        have hsz : (wr.alloc (.cells #[.bool true] 4)).heap.size = wr.heap.size + 1 := size_box _ _
        clear hr hbw
        go_wp2_with (at_builtin; (refine rowB_new rfl _ _ rfl w.heap.size _ acc rfl HR2.out wr.heap.size _ rfl HX.out (by omega) (by rw [hsz]; omega) ?_; intro v5 w5 hr5 hb5; have HR5 := Lib.hid hr5; have HB5 := Lib.hid (HB2.out.trans hb5); clear hr5 hb5))
        go_roundw
        case rel => exact ⟨k + 1, by omega, by go_num, by rw [HD.out]; exact HR5.out, HB5.out⟩
        case measure => simp [intOf]; omega
    · obtain rfl : k = 64 := by omega
      rw [List.take_of_length_le (by rw [HAL.out]; omega)] at hr
      obtain ⟨A9, c9, rfl, ho⟩ := hr.ob (by rw [HAL.out]; omega)
      rw [HAL.out, na]
      have HO := Lib.hid (numberw (c := c9) ho.lb (by rw [HAL.out]; exact na))
      have HBW := Lib.hid hbw
      clear hr hbw ho
      go_wp2_with (go_at_call 19; go_must ((with_reducible refine HO.out.mono ?_); rintro e w9 ⟨rfl, rfl⟩))
      go_ret
      exact ⟨rfl, HBW.out⟩
set_option maxHeartbeats 4000000 in
theorem bitw1 {w : World} {A B : Option Addr} {c d : Nat} {a b : List Bool} (ha : LB w A a) (hb : LB w B b) (na : a.length = 64) (nb : b.length = 64) :
    Calls Try.prog 24 #[.int .i64 1, .slice A 64 c, .slice B 64 d] w fun e w' => e = .returned (.int .u64 (numL (bopL 1 a b))) ∧ Below w.heap.size w w' := by
  have HA := Lib.hid ha
  have HB := Lib.hid hb
  have HAL := Lib.hid (bopL_len (k := 1) (a := a) (b := b) (by omega))
  clear ha hb
  go_enter Try.func24, Try.ntmps24
  go_wp2
  go_loopw [7, 8] (fun o i wr => ∃ k : Nat, k ≤ 64 ∧ i = .int .i64 k ∧ RowB wr w.heap.size o ((bopL 1 a b).take k) ∧ Below w.heap.size w wr) (fun _ i _ => 64 - (intOf i).toNat)
  case atStart => exact ⟨0, Nat.zero_le _, rfl, RowB.nil _ _, Below.refl _ _⟩
  case round =>
    obtain ⟨k, hk, rfl, hr, hbw⟩ := hrel
    have hz := hbw.size
    by_cases hlt : k < 64
    · obtain ⟨x, hx⟩ : ∃ x, a[k]? = some x := ⟨_, List.getElem?_eq_getElem (by omega)⟩
      obtain ⟨y, hy⟩ : ∃ y, b[k]? = some y := ⟨_, List.getElem?_eq_getElem (by omega)⟩
      obtain ⟨bl, off, rfl, hbl, hc1⟩ := HA.out.at hx
      obtain ⟨bl2, off2, rfl, hbl2, hc2⟩ := HB.out.at hy
      have hc1 := (hbw.cell (p := ⟨bl, off + k, none⟩) hbl).trans hc1
      have hc2 := (hbw.cell (p := ⟨bl2, off2 + k, none⟩) hbl2).trans hc2
      have hd := bopL_get (k := 1) hx hy
      have hlen : ((bopL 1 a b).take k).length ≤ 1000 := by rw [List.length_take]; omega
      obtain ⟨acc, hacc⟩ : ∃ acc, acc = (bopL 1 a b).take k := ⟨_, rfl⟩
      rw [← hacc] at hd hr hlen
      clear hx hy hacc
      cases x <;> cases y
      · have HD := Lib.hid (show (bopL 1 a b).take (k + 1) = acc ++ [false] from hd)
        clear hd
        have HR2 := Lib.hid (hr.later (below_box wr (.cells #[.bool false] 4)))
        have HB2 := Lib.hid (hbw.alloc hz (.cells #[.bool false] 4))
        have HX := Lib.hid (Whole.made wr 4 #[.bool false])
        have hsz : (wr.alloc (.cells #[.bool false] 4)).heap.size = wr.heap.size + 1 := size_box _ _
        clear hr hbw
        go_wp2_with (at_builtin; (refine rowB_new rfl _ _ rfl w.heap.size _ acc rfl HR2.out wr.heap.size _ rfl HX.out (by omega) (by rw [hsz]; omega) ?_; intro v5 w5 hr5 hb5; have HR5 := Lib.hid hr5; have HB5 := Lib.hid (HB2.out.trans hb5); clear hr5 hb5))
        go_roundw
        case rel => exact ⟨k + 1, by omega, by go_num, by rw [HD.out]; exact HR5.out, HB5.out⟩
        case measure => simp [intOf]; omega
      · have HD := Lib.hid (show (bopL 1 a b).take (k + 1) = acc ++ [true] from hd)
        clear hd
        have HR2 := Lib.hid (hr.later (below_box wr (.cells #[.bool true] 4)))
        have HB2 := Lib.hid (hbw.alloc hz (.cells #[.bool true] 4))
        have HX := Lib.hid (Whole.made wr 4 #[.bool true])
        have hsz : (wr.alloc (.cells #[.bool true] 4)).heap.size = wr.heap.size + 1 := size_box _ _
        clear hr hbw
        go_wp2_with (at_builtin; (refine rowB_new rfl _ _ rfl w.heap.size _ acc rfl HR2.out wr.heap.size _ rfl HX.out (by omega) (by rw [hsz]; omega) ?_; intro v5 w5 hr5 hb5; have HR5 := Lib.hid hr5; have HB5 := Lib.hid (HB2.out.trans hb5); clear hr5 hb5))
        go_roundw
        case rel => exact ⟨k + 1, by omega, by go_num, by rw [HD.out]; exact HR5.out, HB5.out⟩
        case measure => simp [intOf]; omega
      · have HD := Lib.hid (show (bopL 1 a b).take (k + 1) = acc ++ [true] from hd)
        clear hd
        have HR2 := Lib.hid (hr.later (below_box wr (.cells #[.bool true] 4)))
        have HB2 := Lib.hid (hbw.alloc hz (.cells #[.bool true] 4))
        have HX := Lib.hid (Whole.made wr 4 #[.bool true])
        have hsz : (wr.alloc (.cells #[.bool true] 4)).heap.size = wr.heap.size + 1 := size_box _ _
        clear hr hbw
        go_wp2_with (at_builtin; (refine rowB_new rfl _ _ rfl w.heap.size _ acc rfl HR2.out wr.heap.size _ rfl HX.out (by omega) (by rw [hsz]; omega) ?_; intro v5 w5 hr5 hb5; have HR5 := Lib.hid hr5; have HB5 := Lib.hid (HB2.out.trans hb5); clear hr5 hb5))
        go_roundw
        case rel => exact ⟨k + 1, by omega, by go_num, by rw [HD.out]; exact HR5.out, HB5.out⟩
        case measure => simp [intOf]; omega
      · have HD := Lib.hid (show (bopL 1 a b).take (k + 1) = acc ++ [true] from hd)
        clear hd
        have HR2 := Lib.hid (hr.later (below_box wr (.cells #[.bool true] 4)))
        have HB2 := Lib.hid (hbw.alloc hz (.cells #[.bool true] 4))
        have HX := Lib.hid (Whole.made wr 4 #[.bool true])
        have hsz : (wr.alloc (.cells #[.bool true] 4)).heap.size = wr.heap.size + 1 := size_box _ _
        clear hr hbw
        go_wp2_with (at_builtin; (refine rowB_new rfl _ _ rfl w.heap.size _ acc rfl HR2.out wr.heap.size _ rfl HX.out (by omega) (by rw [hsz]; omega) ?_; intro v5 w5 hr5 hb5; have HR5 := Lib.hid hr5; have HB5 := Lib.hid (HB2.out.trans hb5); clear hr5 hb5))
        go_roundw
        case rel => exact ⟨k + 1, by omega, by go_num, by rw [HD.out]; exact HR5.out, HB5.out⟩
        case measure => simp [intOf]; omega
    · obtain rfl : k = 64 := by omega
      rw [List.take_of_length_le (by rw [HAL.out]; omega)] at hr
      obtain ⟨A9, c9, rfl, ho⟩ := hr.ob (by rw [HAL.out]; omega)
      rw [HAL.out, na]
      have HO := Lib.hid (numberw (c := c9) ho.lb (by rw [HAL.out]; exact na))
      have HBW := Lib.hid hbw
      clear hr hbw ho
      go_wp2_with (go_at_call 19; go_must ((with_reducible refine HO.out.mono ?_); rintro e w9 ⟨rfl, rfl⟩))
      go_ret
      exact ⟨rfl, HBW.out⟩
set_option maxHeartbeats 4000000 in
theorem bitw2 {w : World} {A B : Option Addr} {c d : Nat} {a b : List Bool} (ha : LB w A a) (hb : LB w B b) (na : a.length = 64) (nb : b.length = 64) :
    Calls Try.prog 24 #[.int .i64 2, .slice A 64 c, .slice B 64 d] w fun e w' => e = .returned (.int .u64 (numL (bopL 2 a b))) ∧ Below w.heap.size w w' := by
  have HA := Lib.hid ha
  have HB := Lib.hid hb
  have HAL := Lib.hid (bopL_len (k := 2) (a := a) (b := b) (by omega))
  clear ha hb
  go_enter Try.func24, Try.ntmps24
  go_wp2
  go_loopw [7, 8] (fun o i wr => ∃ k : Nat, k ≤ 64 ∧ i = .int .i64 k ∧ RowB wr w.heap.size o ((bopL 2 a b).take k) ∧ Below w.heap.size w wr) (fun _ i _ => 64 - (intOf i).toNat)
  case atStart => exact ⟨0, Nat.zero_le _, rfl, RowB.nil _ _, Below.refl _ _⟩
  case round =>
    obtain ⟨k, hk, rfl, hr, hbw⟩ := hrel
    have hz := hbw.size
    by_cases hlt : k < 64
    · obtain ⟨x, hx⟩ : ∃ x, a[k]? = some x := ⟨_, List.getElem?_eq_getElem (by omega)⟩
      obtain ⟨y, hy⟩ : ∃ y, b[k]? = some y := ⟨_, List.getElem?_eq_getElem (by omega)⟩
      obtain ⟨bl, off, rfl, hbl, hc1⟩ := HA.out.at hx
      obtain ⟨bl2, off2, rfl, hbl2, hc2⟩ := HB.out.at hy
      have hc1 := (hbw.cell (p := ⟨bl, off + k, none⟩) hbl).trans hc1
      have hc2 := (hbw.cell (p := ⟨bl2, off2 + k, none⟩) hbl2).trans hc2
      have hd := bopL_get (k := 2) hx hy
      have hlen : ((bopL 2 a b).take k).length ≤ 1000 := by rw [List.length_take]; omega
      obtain ⟨acc, hacc⟩ : ∃ acc, acc = (bopL 2 a b).take k := ⟨_, rfl⟩
      rw [← hacc] at hd hr hlen
      clear hx hy hacc
      cases x <;> cases y
      · have HD := Lib.hid (show (bopL 2 a b).take (k + 1) = acc ++ [false] from hd)
        clear hd
        have hS : (wr.drew.cell? ⟨bl, off + k, none⟩ = some (.bool false) ∧ wr.drew.cell? ⟨bl2, off2 + k, none⟩ = some (.bool false)) ∧ Below w.heap.size w wr.drew := ⟨⟨hc1, hc2⟩, hbw.drew⟩
        have HR := Lib.hid hr
        clear hr hbw hc1 hc2
        go_upto_region 6 with fail
        refine wp_region_noPanic ?_
        refine wp_region_held_drew (S := fun W => (W.cell? ⟨bl, off + k, none⟩ = some (.bool false) ∧ W.cell? ⟨bl2, off2 + k, none⟩ = some (.bool false)) ∧ Below w.heap.size w W) (by kernel_rfl) hS (fun hHeld => ?_)
        clear hS
        (refine heldTake (i := 0) (oi := { dst := some 14, op := Op.move (Operand.tmp 7), type := 43, pos := "ref.go:214", after := #[], guard := none }) (v := ?_) rfl (by kernel_rfl) (by kernel_rfl) (by kernel_rfl) (by assumption) ?_ ?_; rotate_left; focus (refine .inl ⟨by kernel_rfl, ?_⟩; intro w hSw; (try dsimp only at hSw); go_simp; (try with_reducible rfl)); skip)
        (try simp only [Act.put, List.setIfInBounds_toArray, List.set_cons_zero, List.set_cons_succ])
        (refine heldTake (i := 1) (oi := { dst := some 15, op := Op.move (Operand.tmp 1), type := 43, pos := "ref.go:214", after := #[], guard := none }) (v := ?_) rfl (by kernel_rfl) (by kernel_rfl) (by kernel_rfl) (by assumption) ?_ ?_; rotate_left; focus (refine .inl ⟨by kernel_rfl, ?_⟩; intro w hSw; (try dsimp only at hSw); go_simp; (try with_reducible rfl)); skip)
        (try simp only [Act.put, List.setIfInBounds_toArray, List.set_cons_zero, List.set_cons_succ])
        (refine heldTake (i := 2) (oi := { dst := some 16, op := Op.move (Operand.tmp 8), type := 3, pos := "ref.go:214", after := #[], guard := none }) (v := ?_) rfl (by kernel_rfl) (by kernel_rfl) (by kernel_rfl) (by assumption) ?_ ?_; rotate_left; focus (refine .inl ⟨by kernel_rfl, ?_⟩; intro w hSw; (try dsimp only at hSw); go_simp; (try with_reducible rfl)); skip)
        (try simp only [Act.put, List.setIfInBounds_toArray, List.set_cons_zero, List.set_cons_succ])
        (refine heldTake (i := 3) (oi := { dst := some 17, op := Op.indexAddr 43 (Operand.tmp 15) (Operand.tmp 16), type := 0, pos := "ref.go:214", after := #[{ on := 1, ground := Ground.data }, { on := 2, ground := Ground.data }], guard := none }) (v := ?_) rfl (by kernel_rfl) (by kernel_rfl) (by kernel_rfl) (by assumption) ?_ ?_; rotate_left; focus (refine .inl ⟨by kernel_rfl, ?_⟩; intro w hSw; (try dsimp only at hSw); go_simp; (try with_reducible rfl)); skip)
        (try simp only [Act.put, List.setIfInBounds_toArray, List.set_cons_zero, List.set_cons_succ])
        (refine heldTake (i := 4) (oi := { dst := some 18, op := Op.load 4 (Operand.tmp 17), type := 4, pos := "ref.go:214", after := #[{ on := 3, ground := Ground.data }], guard := none }) (v := ?_) rfl (by kernel_rfl) (by kernel_rfl) (by kernel_rfl) (by assumption) ?_ ?_; rotate_left; focus (refine .inl ⟨by kernel_rfl, ?_⟩; intro w hSw; (try dsimp only at hSw); go_simp; (try with_reducible rfl)); skip)
        (try simp only [Act.put, List.setIfInBounds_toArray, List.set_cons_zero, List.set_cons_succ])
        (refine heldTake (i := 5) (oi := { dst := some 19, op := Op.move (Operand.tmp 2), type := 43, pos := "ref.go:214", after := #[], guard := none }) (v := ?_) rfl (by kernel_rfl) (by kernel_rfl) (by kernel_rfl) (by assumption) ?_ ?_; rotate_left; focus (refine .inl ⟨by kernel_rfl, ?_⟩; intro w hSw; (try dsimp only at hSw); go_simp; (try with_reducible rfl)); skip)
        (try simp only [Act.put, List.setIfInBounds_toArray, List.set_cons_zero, List.set_cons_succ])
        (refine heldTake (i := 6) (oi := { dst := some 20, op := Op.move (Operand.tmp 8), type := 3, pos := "ref.go:214", after := #[], guard := none }) (v := ?_) rfl (by kernel_rfl) (by kernel_rfl) (by kernel_rfl) (by assumption) ?_ ?_; rotate_left; focus (refine .inl ⟨by kernel_rfl, ?_⟩; intro w hSw; (try dsimp only at hSw); go_simp; (try with_reducible rfl)); skip)
        (try simp only [Act.put, List.setIfInBounds_toArray, List.set_cons_zero, List.set_cons_succ])
        (refine heldTake (i := 7) (oi := { dst := some 21, op := Op.indexAddr 43 (Operand.tmp 19) (Operand.tmp 20), type := 0, pos := "ref.go:214", after := #[{ on := 5, ground := Ground.data }, { on := 6, ground := Ground.data }], guard := none }) (v := ?_) rfl (by kernel_rfl) (by kernel_rfl) (by kernel_rfl) (by assumption) ?_ ?_; rotate_left; focus (refine .inl ⟨by kernel_rfl, ?_⟩; intro w hSw; (try dsimp only at hSw); go_simp; (try with_reducible rfl)); skip)
        (try simp only [Act.put, List.setIfInBounds_toArray, List.set_cons_zero, List.set_cons_succ])
        (refine heldTake (i := 8) (oi := { dst := some 22, op := Op.load 4 (Operand.tmp 21), type := 4, pos := "ref.go:214", after := #[{ on := 7, ground := Ground.data }], guard := none }) (v := ?_) rfl (by kernel_rfl) (by kernel_rfl) (by kernel_rfl) (by assumption) ?_ ?_; rotate_left; focus (refine .inl ⟨by kernel_rfl, ?_⟩; intro w hSw; (try dsimp only at hSw); go_simp; (try with_reducible rfl)); skip)
        (try simp only [Act.put, List.setIfInBounds_toArray, List.set_cons_zero, List.set_cons_succ])
        (refine heldTake (i := 9) (oi := { dst := some 23, op := Op.binOp BinOp.neq 4 (Operand.tmp 18) (Operand.tmp 22) 4, type := 4, pos := "ref.go:214", after := #[{ on := 4, ground := Ground.data }, { on := 8, ground := Ground.data }], guard := none }) (v := ?_) rfl (by kernel_rfl) (by kernel_rfl) (by kernel_rfl) (by assumption) ?_ ?_; rotate_left; focus (refine .inl ⟨by kernel_rfl, ?_⟩; intro w hSw; (try dsimp only at hSw); go_simp; (try with_reducible rfl)); skip)
        (try simp only [Act.put, List.setIfInBounds_toArray, List.set_cons_zero, List.set_cons_succ])
        refine wpAnyH_ready (rs := [10]) (by kernel_rfl) (by simp) ?_
        refine (AllReadyH.cons (o := { dst := some 24, op := Op.buildSlice 43 1 #[(0, Operand.tmp 23)], type := 43, pos := "ref.go:214", after := #[{ on := 9, ground := Ground.data }], guard := none }) rfl (fun K hK => ?_) AllReadyH.nil)
        refine step_buildB rfl _ rfl false rfl ?_; intro g3 w3 hg3 hb3 hx3; have HB10 := Lib.hid hb3; have HX3 := Lib.hid hx3; have hk3 := And.intro (And.intro ((hb3.cell (p := ⟨bl, off + k, none⟩) (block_lt_of_cell hHeld.1.1)).trans hHeld.1.1) ((hb3.cell (p := ⟨bl2, off2 + k, none⟩) (block_lt_of_cell hHeld.1.2)).trans hHeld.1.2)) (hHeld.2.trans (hb3.mono hHeld.2.size)); clear hb3 hx3
        refine hK.out _ _ hk3 (fun hHeld10 => ?_)
        clear hK K hHeld
        (try simp only [Act.put, List.setIfInBounds_toArray, List.set_cons_zero, List.set_cons_succ])
        refine wpAnyH_ready (rs := [11]) (by kernel_rfl) (by simp) ?_
        refine (AllReadyH.cons (o := { dst := some 25, op := Op.call { callee := Callee.builtin Builtin.append, args := #[Operand.tmp 14, Operand.tmp 24], argTypes := #[43, 43] }, type := 43, pos := "ref.go:214", after := #[{ on := 0, ground := Ground.data }, { on := 10, ground := Ground.data }], guard := none }) rfl (fun K hK => ?_) AllReadyH.nil)
        refine step_rowB rfl _ _ rfl w.heap.size _ acc rfl (HR.out.later ((Below.refl _ _).drew.trans HB10.out)) g3 false rfl HX3.out hlen hHeld10.2.size ?_; intro v5 w5 hr5 hb5 hg5; have HR5 := Lib.hid hr5; have hs5 := And.intro (And.intro ((hb5.cell (p := ⟨bl, off + k, none⟩) hbl).trans hHeld10.1.1) ((hb5.cell (p := ⟨bl2, off2 + k, none⟩) hbl2).trans hHeld10.1.2)) (hHeld10.2.trans hb5); clear hr5 hb5 hg5
        refine hK.out _ _ hs5 (fun hHeld11 => ?_)
        clear hK K hHeld10
        (try simp only [Act.put, List.setIfInBounds_toArray, List.set_cons_zero, List.set_cons_succ])
        (refine heldTake (i := 12) (oi := { dst := some 7, op := Op.assign (Operand.tmp 25), type := 43, pos := "ref.go:214", after := #[{ on := 11, ground := Ground.data }, { on := 11, ground := Ground.chain }, { on := 0, ground := Ground.phase }, { on := 1, ground := Ground.phase }, { on := 2, ground := Ground.phase }, { on := 3, ground := Ground.phase }, { on := 4, ground := Ground.phase }, { on := 5, ground := Ground.phase }, { on := 6, ground := Ground.phase }, { on := 7, ground := Ground.phase }, { on := 8, ground := Ground.phase }, { on := 9, ground := Ground.phase }, { on := 10, ground := Ground.phase }, { on := 11, ground := Ground.phase }], guard := none }) (v := ?_) rfl (by kernel_rfl) (by kernel_rfl) (by kernel_rfl) (by assumption) ?_ ?_; rotate_left; focus (refine .inl ⟨by kernel_rfl, ?_⟩; intro w hSw; (try dsimp only at hSw); go_simp; (try with_reducible rfl)); skip)
        (try simp only [Act.put, List.setIfInBounds_toArray, List.set_cons_zero, List.set_cons_succ])
        refine wpAnyH_done (by kernel_rfl) ?_ _
        refine NoPanic.normal ?_
        have hLast := hHeld11
        clear hHeld11
        go_wp2
        go_roundw
        case rel => exact ⟨k + 1, by omega, by go_num, by rw [HD.out]; exact HR5.out, hLast.2⟩
        case measure => simp [intOf]; omega
      · have HD := Lib.hid (show (bopL 2 a b).take (k + 1) = acc ++ [true] from hd)
        clear hd
        have hS : (wr.drew.cell? ⟨bl, off + k, none⟩ = some (.bool false) ∧ wr.drew.cell? ⟨bl2, off2 + k, none⟩ = some (.bool true)) ∧ Below w.heap.size w wr.drew := ⟨⟨hc1, hc2⟩, hbw.drew⟩
        have HR := Lib.hid hr
        clear hr hbw hc1 hc2
        go_upto_region 6 with fail
        refine wp_region_noPanic ?_
        refine wp_region_held_drew (S := fun W => (W.cell? ⟨bl, off + k, none⟩ = some (.bool false) ∧ W.cell? ⟨bl2, off2 + k, none⟩ = some (.bool true)) ∧ Below w.heap.size w W) (by kernel_rfl) hS (fun hHeld => ?_)
        clear hS
        (refine heldTake (i := 0) (oi := { dst := some 14, op := Op.move (Operand.tmp 7), type := 43, pos := "ref.go:214", after := #[], guard := none }) (v := ?_) rfl (by kernel_rfl) (by kernel_rfl) (by kernel_rfl) (by assumption) ?_ ?_; rotate_left; focus (refine .inl ⟨by kernel_rfl, ?_⟩; intro w hSw; (try dsimp only at hSw); go_simp; (try with_reducible rfl)); skip)
        (try simp only [Act.put, List.setIfInBounds_toArray, List.set_cons_zero, List.set_cons_succ])
        (refine heldTake (i := 1) (oi := { dst := some 15, op := Op.move (Operand.tmp 1), type := 43, pos := "ref.go:214", after := #[], guard := none }) (v := ?_) rfl (by kernel_rfl) (by kernel_rfl) (by kernel_rfl) (by assumption) ?_ ?_; rotate_left; focus (refine .inl ⟨by kernel_rfl, ?_⟩; intro w hSw; (try dsimp only at hSw); go_simp; (try with_reducible rfl)); skip)
        (try simp only [Act.put, List.setIfInBounds_toArray, List.set_cons_zero, List.set_cons_succ])
        (refine heldTake (i := 2) (oi := { dst := some 16, op := Op.move (Operand.tmp 8), type := 3, pos := "ref.go:214", after := #[], guard := none }) (v := ?_) rfl (by kernel_rfl) (by kernel_rfl) (by kernel_rfl) (by assumption) ?_ ?_; rotate_left; focus (refine .inl ⟨by kernel_rfl, ?_⟩; intro w hSw; (try dsimp only at hSw); go_simp; (try with_reducible rfl)); skip)
        (try simp only [Act.put, List.setIfInBounds_toArray, List.set_cons_zero, List.set_cons_succ])
        (refine heldTake (i := 3) (oi := { dst := some 17, op := Op.indexAddr 43 (Operand.tmp 15) (Operand.tmp 16), type := 0, pos := "ref.go:214", after := #[{ on := 1, ground := Ground.data }, { on := 2, ground := Ground.data }], guard := none }) (v := ?_) rfl (by kernel_rfl) (by kernel_rfl) (by kernel_rfl) (by assumption) ?_ ?_; rotate_left; focus (refine .inl ⟨by kernel_rfl, ?_⟩; intro w hSw; (try dsimp only at hSw); go_simp; (try with_reducible rfl)); skip)
        (try simp only [Act.put, List.setIfInBounds_toArray, List.set_cons_zero, List.set_cons_succ])
        (refine heldTake (i := 4) (oi := { dst := some 18, op := Op.load 4 (Operand.tmp 17), type := 4, pos := "ref.go:214", after := #[{ on := 3, ground := Ground.data }], guard := none }) (v := ?_) rfl (by kernel_rfl) (by kernel_rfl) (by kernel_rfl) (by assumption) ?_ ?_; rotate_left; focus (refine .inl ⟨by kernel_rfl, ?_⟩; intro w hSw; (try dsimp only at hSw); go_simp; (try with_reducible rfl)); skip)
        (try simp only [Act.put, List.setIfInBounds_toArray, List.set_cons_zero, List.set_cons_succ])
        (refine heldTake (i := 5) (oi := { dst := some 19, op := Op.move (Operand.tmp 2), type := 43, pos := "ref.go:214", after := #[], guard := none }) (v := ?_) rfl (by kernel_rfl) (by kernel_rfl) (by kernel_rfl) (by assumption) ?_ ?_; rotate_left; focus (refine .inl ⟨by kernel_rfl, ?_⟩; intro w hSw; (try dsimp only at hSw); go_simp; (try with_reducible rfl)); skip)
        (try simp only [Act.put, List.setIfInBounds_toArray, List.set_cons_zero, List.set_cons_succ])
        (refine heldTake (i := 6) (oi := { dst := some 20, op := Op.move (Operand.tmp 8), type := 3, pos := "ref.go:214", after := #[], guard := none }) (v := ?_) rfl (by kernel_rfl) (by kernel_rfl) (by kernel_rfl) (by assumption) ?_ ?_; rotate_left; focus (refine .inl ⟨by kernel_rfl, ?_⟩; intro w hSw; (try dsimp only at hSw); go_simp; (try with_reducible rfl)); skip)
        (try simp only [Act.put, List.setIfInBounds_toArray, List.set_cons_zero, List.set_cons_succ])
        (refine heldTake (i := 7) (oi := { dst := some 21, op := Op.indexAddr 43 (Operand.tmp 19) (Operand.tmp 20), type := 0, pos := "ref.go:214", after := #[{ on := 5, ground := Ground.data }, { on := 6, ground := Ground.data }], guard := none }) (v := ?_) rfl (by kernel_rfl) (by kernel_rfl) (by kernel_rfl) (by assumption) ?_ ?_; rotate_left; focus (refine .inl ⟨by kernel_rfl, ?_⟩; intro w hSw; (try dsimp only at hSw); go_simp; (try with_reducible rfl)); skip)
        (try simp only [Act.put, List.setIfInBounds_toArray, List.set_cons_zero, List.set_cons_succ])
        (refine heldTake (i := 8) (oi := { dst := some 22, op := Op.load 4 (Operand.tmp 21), type := 4, pos := "ref.go:214", after := #[{ on := 7, ground := Ground.data }], guard := none }) (v := ?_) rfl (by kernel_rfl) (by kernel_rfl) (by kernel_rfl) (by assumption) ?_ ?_; rotate_left; focus (refine .inl ⟨by kernel_rfl, ?_⟩; intro w hSw; (try dsimp only at hSw); go_simp; (try with_reducible rfl)); skip)
        (try simp only [Act.put, List.setIfInBounds_toArray, List.set_cons_zero, List.set_cons_succ])
        (refine heldTake (i := 9) (oi := { dst := some 23, op := Op.binOp BinOp.neq 4 (Operand.tmp 18) (Operand.tmp 22) 4, type := 4, pos := "ref.go:214", after := #[{ on := 4, ground := Ground.data }, { on := 8, ground := Ground.data }], guard := none }) (v := ?_) rfl (by kernel_rfl) (by kernel_rfl) (by kernel_rfl) (by assumption) ?_ ?_; rotate_left; focus (refine .inl ⟨by kernel_rfl, ?_⟩; intro w hSw; (try dsimp only at hSw); go_simp; (try with_reducible rfl)); skip)
        (try simp only [Act.put, List.setIfInBounds_toArray, List.set_cons_zero, List.set_cons_succ])
        refine wpAnyH_ready (rs := [10]) (by kernel_rfl) (by simp) ?_
        refine (AllReadyH.cons (o := { dst := some 24, op := Op.buildSlice 43 1 #[(0, Operand.tmp 23)], type := 43, pos := "ref.go:214", after := #[{ on := 9, ground := Ground.data }], guard := none }) rfl (fun K hK => ?_) AllReadyH.nil)
        refine step_buildB rfl _ rfl true rfl ?_; intro g3 w3 hg3 hb3 hx3; have HB10 := Lib.hid hb3; have HX3 := Lib.hid hx3; have hk3 := And.intro (And.intro ((hb3.cell (p := ⟨bl, off + k, none⟩) (block_lt_of_cell hHeld.1.1)).trans hHeld.1.1) ((hb3.cell (p := ⟨bl2, off2 + k, none⟩) (block_lt_of_cell hHeld.1.2)).trans hHeld.1.2)) (hHeld.2.trans (hb3.mono hHeld.2.size)); clear hb3 hx3
        refine hK.out _ _ hk3 (fun hHeld10 => ?_)
        clear hK K hHeld
        (try simp only [Act.put, List.setIfInBounds_toArray, List.set_cons_zero, List.set_cons_succ])
        refine wpAnyH_ready (rs := [11]) (by kernel_rfl) (by simp) ?_
        refine (AllReadyH.cons (o := { dst := some 25, op := Op.call { callee := Callee.builtin Builtin.append, args := #[Operand.tmp 14, Operand.tmp 24], argTypes := #[43, 43] }, type := 43, pos := "ref.go:214", after := #[{ on := 0, ground := Ground.data }, { on := 10, ground := Ground.data }], guard := none }) rfl (fun K hK => ?_) AllReadyH.nil)
        refine step_rowB rfl _ _ rfl w.heap.size _ acc rfl (HR.out.later ((Below.refl _ _).drew.trans HB10.out)) g3 true rfl HX3.out hlen hHeld10.2.size ?_; intro v5 w5 hr5 hb5 hg5; have HR5 := Lib.hid hr5; have hs5 := And.intro (And.intro ((hb5.cell (p := ⟨bl, off + k, none⟩) hbl).trans hHeld10.1.1) ((hb5.cell (p := ⟨bl2, off2 + k, none⟩) hbl2).trans hHeld10.1.2)) (hHeld10.2.trans hb5); clear hr5 hb5 hg5
        refine hK.out _ _ hs5 (fun hHeld11 => ?_)
        clear hK K hHeld10
        (try simp only [Act.put, List.setIfInBounds_toArray, List.set_cons_zero, List.set_cons_succ])
        (refine heldTake (i := 12) (oi := { dst := some 7, op := Op.assign (Operand.tmp 25), type := 43, pos := "ref.go:214", after := #[{ on := 11, ground := Ground.data }, { on := 11, ground := Ground.chain }, { on := 0, ground := Ground.phase }, { on := 1, ground := Ground.phase }, { on := 2, ground := Ground.phase }, { on := 3, ground := Ground.phase }, { on := 4, ground := Ground.phase }, { on := 5, ground := Ground.phase }, { on := 6, ground := Ground.phase }, { on := 7, ground := Ground.phase }, { on := 8, ground := Ground.phase }, { on := 9, ground := Ground.phase }, { on := 10, ground := Ground.phase }, { on := 11, ground := Ground.phase }], guard := none }) (v := ?_) rfl (by kernel_rfl) (by kernel_rfl) (by kernel_rfl) (by assumption) ?_ ?_; rotate_left; focus (refine .inl ⟨by kernel_rfl, ?_⟩; intro w hSw; (try dsimp only at hSw); go_simp; (try with_reducible rfl)); skip)
        (try simp only [Act.put, List.setIfInBounds_toArray, List.set_cons_zero, List.set_cons_succ])
        refine wpAnyH_done (by kernel_rfl) ?_ _
        refine NoPanic.normal ?_
        have hLast := hHeld11
        clear hHeld11
        go_wp2
        go_roundw
        case rel => exact ⟨k + 1, by omega, by go_num, by rw [HD.out]; exact HR5.out, hLast.2⟩
        case measure => simp [intOf]; omega
      · have HD := Lib.hid (show (bopL 2 a b).take (k + 1) = acc ++ [true] from hd)
        clear hd
        have hS : (wr.drew.cell? ⟨bl, off + k, none⟩ = some (.bool true) ∧ wr.drew.cell? ⟨bl2, off2 + k, none⟩ = some (.bool false)) ∧ Below w.heap.size w wr.drew := ⟨⟨hc1, hc2⟩, hbw.drew⟩
        have HR := Lib.hid hr
        clear hr hbw hc1 hc2
        go_upto_region 6 with fail
        refine wp_region_noPanic ?_
        refine wp_region_held_drew (S := fun W => (W.cell? ⟨bl, off + k, none⟩ = some (.bool true) ∧ W.cell? ⟨bl2, off2 + k, none⟩ = some (.bool false)) ∧ Below w.heap.size w W) (by kernel_rfl) hS (fun hHeld => ?_)
        clear hS
        (refine heldTake (i := 0) (oi := { dst := some 14, op := Op.move (Operand.tmp 7), type := 43, pos := "ref.go:214", after := #[], guard := none }) (v := ?_) rfl (by kernel_rfl) (by kernel_rfl) (by kernel_rfl) (by assumption) ?_ ?_; rotate_left; focus (refine .inl ⟨by kernel_rfl, ?_⟩; intro w hSw; (try dsimp only at hSw); go_simp; (try with_reducible rfl)); skip)
        (try simp only [Act.put, List.setIfInBounds_toArray, List.set_cons_zero, List.set_cons_succ])
        (refine heldTake (i := 1) (oi := { dst := some 15, op := Op.move (Operand.tmp 1), type := 43, pos := "ref.go:214", after := #[], guard := none }) (v := ?_) rfl (by kernel_rfl) (by kernel_rfl) (by kernel_rfl) (by assumption) ?_ ?_; rotate_left; focus (refine .inl ⟨by kernel_rfl, ?_⟩; intro w hSw; (try dsimp only at hSw); go_simp; (try with_reducible rfl)); skip)
        (try simp only [Act.put, List.setIfInBounds_toArray, List.set_cons_zero, List.set_cons_succ])
        (refine heldTake (i := 2) (oi := { dst := some 16, op := Op.move (Operand.tmp 8), type := 3, pos := "ref.go:214", after := #[], guard := none }) (v := ?_) rfl (by kernel_rfl) (by kernel_rfl) (by kernel_rfl) (by assumption) ?_ ?_; rotate_left; focus (refine .inl ⟨by kernel_rfl, ?_⟩; intro w hSw; (try dsimp only at hSw); go_simp; (try with_reducible rfl)); skip)
        (try simp only [Act.put, List.setIfInBounds_toArray, List.set_cons_zero, List.set_cons_succ])
        (refine heldTake (i := 3) (oi := { dst := some 17, op := Op.indexAddr 43 (Operand.tmp 15) (Operand.tmp 16), type := 0, pos := "ref.go:214", after := #[{ on := 1, ground := Ground.data }, { on := 2, ground := Ground.data }], guard := none }) (v := ?_) rfl (by kernel_rfl) (by kernel_rfl) (by kernel_rfl) (by assumption) ?_ ?_; rotate_left; focus (refine .inl ⟨by kernel_rfl, ?_⟩; intro w hSw; (try dsimp only at hSw); go_simp; (try with_reducible rfl)); skip)
        (try simp only [Act.put, List.setIfInBounds_toArray, List.set_cons_zero, List.set_cons_succ])
        (refine heldTake (i := 4) (oi := { dst := some 18, op := Op.load 4 (Operand.tmp 17), type := 4, pos := "ref.go:214", after := #[{ on := 3, ground := Ground.data }], guard := none }) (v := ?_) rfl (by kernel_rfl) (by kernel_rfl) (by kernel_rfl) (by assumption) ?_ ?_; rotate_left; focus (refine .inl ⟨by kernel_rfl, ?_⟩; intro w hSw; (try dsimp only at hSw); go_simp; (try with_reducible rfl)); skip)
        (try simp only [Act.put, List.setIfInBounds_toArray, List.set_cons_zero, List.set_cons_succ])
        (refine heldTake (i := 5) (oi := { dst := some 19, op := Op.move (Operand.tmp 2), type := 43, pos := "ref.go:214", after := #[], guard := none }) (v := ?_) rfl (by kernel_rfl) (by kernel_rfl) (by kernel_rfl) (by assumption) ?_ ?_; rotate_left; focus (refine .inl ⟨by kernel_rfl, ?_⟩; intro w hSw; (try dsimp only at hSw); go_simp; (try with_reducible rfl)); skip)
        (try simp only [Act.put, List.setIfInBounds_toArray, List.set_cons_zero, List.set_cons_succ])
        (refine heldTake (i := 6) (oi := { dst := some 20, op := Op.move (Operand.tmp 8), type := 3, pos := "ref.go:214", after := #[], guard := none }) (v := ?_) rfl (by kernel_rfl) (by kernel_rfl) (by kernel_rfl) (by assumption) ?_ ?_; rotate_left; focus (refine .inl ⟨by kernel_rfl, ?_⟩; intro w hSw; (try dsimp only at hSw); go_simp; (try with_reducible rfl)); skip)
        (try simp only [Act.put, List.setIfInBounds_toArray, List.set_cons_zero, List.set_cons_succ])
        (refine heldTake (i := 7) (oi := { dst := some 21, op := Op.indexAddr 43 (Operand.tmp 19) (Operand.tmp 20), type := 0, pos := "ref.go:214", after := #[{ on := 5, ground := Ground.data }, { on := 6, ground := Ground.data }], guard := none }) (v := ?_) rfl (by kernel_rfl) (by kernel_rfl) (by kernel_rfl) (by assumption) ?_ ?_; rotate_left; focus (refine .inl ⟨by kernel_rfl, ?_⟩; intro w hSw; (try dsimp only at hSw); go_simp; (try with_reducible rfl)); skip)
        (try simp only [Act.put, List.setIfInBounds_toArray, List.set_cons_zero, List.set_cons_succ])
        (refine heldTake (i := 8) (oi := { dst := some 22, op := Op.load 4 (Operand.tmp 21), type := 4, pos := "ref.go:214", after := #[{ on := 7, ground := Ground.data }], guard := none }) (v := ?_) rfl (by kernel_rfl) (by kernel_rfl) (by kernel_rfl) (by assumption) ?_ ?_; rotate_left; focus (refine .inl ⟨by kernel_rfl, ?_⟩; intro w hSw; (try dsimp only at hSw); go_simp; (try with_reducible rfl)); skip)
        (try simp only [Act.put, List.setIfInBounds_toArray, List.set_cons_zero, List.set_cons_succ])
        (refine heldTake (i := 9) (oi := { dst := some 23, op := Op.binOp BinOp.neq 4 (Operand.tmp 18) (Operand.tmp 22) 4, type := 4, pos := "ref.go:214", after := #[{ on := 4, ground := Ground.data }, { on := 8, ground := Ground.data }], guard := none }) (v := ?_) rfl (by kernel_rfl) (by kernel_rfl) (by kernel_rfl) (by assumption) ?_ ?_; rotate_left; focus (refine .inl ⟨by kernel_rfl, ?_⟩; intro w hSw; (try dsimp only at hSw); go_simp; (try with_reducible rfl)); skip)
        (try simp only [Act.put, List.setIfInBounds_toArray, List.set_cons_zero, List.set_cons_succ])
        refine wpAnyH_ready (rs := [10]) (by kernel_rfl) (by simp) ?_
        refine (AllReadyH.cons (o := { dst := some 24, op := Op.buildSlice 43 1 #[(0, Operand.tmp 23)], type := 43, pos := "ref.go:214", after := #[{ on := 9, ground := Ground.data }], guard := none }) rfl (fun K hK => ?_) AllReadyH.nil)
        refine step_buildB rfl _ rfl true rfl ?_; intro g3 w3 hg3 hb3 hx3; have HB10 := Lib.hid hb3; have HX3 := Lib.hid hx3; have hk3 := And.intro (And.intro ((hb3.cell (p := ⟨bl, off + k, none⟩) (block_lt_of_cell hHeld.1.1)).trans hHeld.1.1) ((hb3.cell (p := ⟨bl2, off2 + k, none⟩) (block_lt_of_cell hHeld.1.2)).trans hHeld.1.2)) (hHeld.2.trans (hb3.mono hHeld.2.size)); clear hb3 hx3
        refine hK.out _ _ hk3 (fun hHeld10 => ?_)
        clear hK K hHeld
        (try simp only [Act.put, List.setIfInBounds_toArray, List.set_cons_zero, List.set_cons_succ])
        refine wpAnyH_ready (rs := [11]) (by kernel_rfl) (by simp) ?_
        refine (AllReadyH.cons (o := { dst := some 25, op := Op.call { callee := Callee.builtin Builtin.append, args := #[Operand.tmp 14, Operand.tmp 24], argTypes := #[43, 43] }, type := 43, pos := "ref.go:214", after := #[{ on := 0, ground := Ground.data }, { on := 10, ground := Ground.data }], guard := none }) rfl (fun K hK => ?_) AllReadyH.nil)
        refine step_rowB rfl _ _ rfl w.heap.size _ acc rfl (HR.out.later ((Below.refl _ _).drew.trans HB10.out)) g3 true rfl HX3.out hlen hHeld10.2.size ?_; intro v5 w5 hr5 hb5 hg5; have HR5 := Lib.hid hr5; have hs5 := And.intro (And.intro ((hb5.cell (p := ⟨bl, off + k, none⟩) hbl).trans hHeld10.1.1) ((hb5.cell (p := ⟨bl2, off2 + k, none⟩) hbl2).trans hHeld10.1.2)) (hHeld10.2.trans hb5); clear hr5 hb5 hg5
        refine hK.out _ _ hs5 (fun hHeld11 => ?_)
        clear hK K hHeld10
        (try simp only [Act.put, List.setIfInBounds_toArray, List.set_cons_zero, List.set_cons_succ])
        (refine heldTake (i := 12) (oi := { dst := some 7, op := Op.assign (Operand.tmp 25), type := 43, pos := "ref.go:214", after := #[{ on := 11, ground := Ground.data }, { on := 11, ground := Ground.chain }, { on := 0, ground := Ground.phase }, { on := 1, ground := Ground.phase }, { on := 2, ground := Ground.phase }, { on := 3, ground := Ground.phase }, { on := 4, ground := Ground.phase }, { on := 5, ground := Ground.phase }, { on := 6, ground := Ground.phase }, { on := 7, ground := Ground.phase }, { on := 8, ground := Ground.phase }, { on := 9, ground := Ground.phase }, { on := 10, ground := Ground.phase }, { on := 11, ground := Ground.phase }], guard := none }) (v := ?_) rfl (by kernel_rfl) (by kernel_rfl) (by kernel_rfl) (by assumption) ?_ ?_; rotate_left; focus (refine .inl ⟨by kernel_rfl, ?_⟩; intro w hSw; (try dsimp only at hSw); go_simp; (try with_reducible rfl)); skip)
        (try simp only [Act.put, List.setIfInBounds_toArray, List.set_cons_zero, List.set_cons_succ])
        refine wpAnyH_done (by kernel_rfl) ?_ _
        refine NoPanic.normal ?_
        have hLast := hHeld11
        clear hHeld11
        go_wp2
        go_roundw
        case rel => exact ⟨k + 1, by omega, by go_num, by rw [HD.out]; exact HR5.out, hLast.2⟩
        case measure => simp [intOf]; omega
      · have HD := Lib.hid (show (bopL 2 a b).take (k + 1) = acc ++ [false] from hd)
        clear hd
        have hS : (wr.drew.cell? ⟨bl, off + k, none⟩ = some (.bool true) ∧ wr.drew.cell? ⟨bl2, off2 + k, none⟩ = some (.bool true)) ∧ Below w.heap.size w wr.drew := ⟨⟨hc1, hc2⟩, hbw.drew⟩
        have HR := Lib.hid hr
        clear hr hbw hc1 hc2
        go_upto_region 6 with fail
        refine wp_region_noPanic ?_
        refine wp_region_held_drew (S := fun W => (W.cell? ⟨bl, off + k, none⟩ = some (.bool true) ∧ W.cell? ⟨bl2, off2 + k, none⟩ = some (.bool true)) ∧ Below w.heap.size w W) (by kernel_rfl) hS (fun hHeld => ?_)
        clear hS
        (refine heldTake (i := 0) (oi := { dst := some 14, op := Op.move (Operand.tmp 7), type := 43, pos := "ref.go:214", after := #[], guard := none }) (v := ?_) rfl (by kernel_rfl) (by kernel_rfl) (by kernel_rfl) (by assumption) ?_ ?_; rotate_left; focus (refine .inl ⟨by kernel_rfl, ?_⟩; intro w hSw; (try dsimp only at hSw); go_simp; (try with_reducible rfl)); skip)
        (try simp only [Act.put, List.setIfInBounds_toArray, List.set_cons_zero, List.set_cons_succ])
        (refine heldTake (i := 1) (oi := { dst := some 15, op := Op.move (Operand.tmp 1), type := 43, pos := "ref.go:214", after := #[], guard := none }) (v := ?_) rfl (by kernel_rfl) (by kernel_rfl) (by kernel_rfl) (by assumption) ?_ ?_; rotate_left; focus (refine .inl ⟨by kernel_rfl, ?_⟩; intro w hSw; (try dsimp only at hSw); go_simp; (try with_reducible rfl)); skip)
        (try simp only [Act.put, List.setIfInBounds_toArray, List.set_cons_zero, List.set_cons_succ])
        (refine heldTake (i := 2) (oi := { dst := some 16, op := Op.move (Operand.tmp 8), type := 3, pos := "ref.go:214", after := #[], guard := none }) (v := ?_) rfl (by kernel_rfl) (by kernel_rfl) (by kernel_rfl) (by assumption) ?_ ?_; rotate_left; focus (refine .inl ⟨by kernel_rfl, ?_⟩; intro w hSw; (try dsimp only at hSw); go_simp; (try with_reducible rfl)); skip)
        (try simp only [Act.put, List.setIfInBounds_toArray, List.set_cons_zero, List.set_cons_succ])
        (refine heldTake (i := 3) (oi := { dst := some 17, op := Op.indexAddr 43 (Operand.tmp 15) (Operand.tmp 16), type := 0, pos := "ref.go:214", after := #[{ on := 1, ground := Ground.data }, { on := 2, ground := Ground.data }], guard := none }) (v := ?_) rfl (by kernel_rfl) (by kernel_rfl) (by kernel_rfl) (by assumption) ?_ ?_; rotate_left; focus (refine .inl ⟨by kernel_rfl, ?_⟩; intro w hSw; (try dsimp only at hSw); go_simp; (try with_reducible rfl)); skip)
        (try simp only [Act.put, List.setIfInBounds_toArray, List.set_cons_zero, List.set_cons_succ])
        (refine heldTake (i := 4) (oi := { dst := some 18, op := Op.load 4 (Operand.tmp 17), type := 4, pos := "ref.go:214", after := #[{ on := 3, ground := Ground.data }], guard := none }) (v := ?_) rfl (by kernel_rfl) (by kernel_rfl) (by kernel_rfl) (by assumption) ?_ ?_; rotate_left; focus (refine .inl ⟨by kernel_rfl, ?_⟩; intro w hSw; (try dsimp only at hSw); go_simp; (try with_reducible rfl)); skip)
        (try simp only [Act.put, List.setIfInBounds_toArray, List.set_cons_zero, List.set_cons_succ])
        (refine heldTake (i := 5) (oi := { dst := some 19, op := Op.move (Operand.tmp 2), type := 43, pos := "ref.go:214", after := #[], guard := none }) (v := ?_) rfl (by kernel_rfl) (by kernel_rfl) (by kernel_rfl) (by assumption) ?_ ?_; rotate_left; focus (refine .inl ⟨by kernel_rfl, ?_⟩; intro w hSw; (try dsimp only at hSw); go_simp; (try with_reducible rfl)); skip)
        (try simp only [Act.put, List.setIfInBounds_toArray, List.set_cons_zero, List.set_cons_succ])
        (refine heldTake (i := 6) (oi := { dst := some 20, op := Op.move (Operand.tmp 8), type := 3, pos := "ref.go:214", after := #[], guard := none }) (v := ?_) rfl (by kernel_rfl) (by kernel_rfl) (by kernel_rfl) (by assumption) ?_ ?_; rotate_left; focus (refine .inl ⟨by kernel_rfl, ?_⟩; intro w hSw; (try dsimp only at hSw); go_simp; (try with_reducible rfl)); skip)
        (try simp only [Act.put, List.setIfInBounds_toArray, List.set_cons_zero, List.set_cons_succ])
        (refine heldTake (i := 7) (oi := { dst := some 21, op := Op.indexAddr 43 (Operand.tmp 19) (Operand.tmp 20), type := 0, pos := "ref.go:214", after := #[{ on := 5, ground := Ground.data }, { on := 6, ground := Ground.data }], guard := none }) (v := ?_) rfl (by kernel_rfl) (by kernel_rfl) (by kernel_rfl) (by assumption) ?_ ?_; rotate_left; focus (refine .inl ⟨by kernel_rfl, ?_⟩; intro w hSw; (try dsimp only at hSw); go_simp; (try with_reducible rfl)); skip)
        (try simp only [Act.put, List.setIfInBounds_toArray, List.set_cons_zero, List.set_cons_succ])
        (refine heldTake (i := 8) (oi := { dst := some 22, op := Op.load 4 (Operand.tmp 21), type := 4, pos := "ref.go:214", after := #[{ on := 7, ground := Ground.data }], guard := none }) (v := ?_) rfl (by kernel_rfl) (by kernel_rfl) (by kernel_rfl) (by assumption) ?_ ?_; rotate_left; focus (refine .inl ⟨by kernel_rfl, ?_⟩; intro w hSw; (try dsimp only at hSw); go_simp; (try with_reducible rfl)); skip)
        (try simp only [Act.put, List.setIfInBounds_toArray, List.set_cons_zero, List.set_cons_succ])
        (refine heldTake (i := 9) (oi := { dst := some 23, op := Op.binOp BinOp.neq 4 (Operand.tmp 18) (Operand.tmp 22) 4, type := 4, pos := "ref.go:214", after := #[{ on := 4, ground := Ground.data }, { on := 8, ground := Ground.data }], guard := none }) (v := ?_) rfl (by kernel_rfl) (by kernel_rfl) (by kernel_rfl) (by assumption) ?_ ?_; rotate_left; focus (refine .inl ⟨by kernel_rfl, ?_⟩; intro w hSw; (try dsimp only at hSw); go_simp; (try with_reducible rfl)); skip)
        (try simp only [Act.put, List.setIfInBounds_toArray, List.set_cons_zero, List.set_cons_succ])
        refine wpAnyH_ready (rs := [10]) (by kernel_rfl) (by simp) ?_
        refine (AllReadyH.cons (o := { dst := some 24, op := Op.buildSlice 43 1 #[(0, Operand.tmp 23)], type := 43, pos := "ref.go:214", after := #[{ on := 9, ground := Ground.data }], guard := none }) rfl (fun K hK => ?_) AllReadyH.nil)
        refine step_buildB rfl _ rfl false rfl ?_; intro g3 w3 hg3 hb3 hx3; have HB10 := Lib.hid hb3; have HX3 := Lib.hid hx3; have hk3 := And.intro (And.intro ((hb3.cell (p := ⟨bl, off + k, none⟩) (block_lt_of_cell hHeld.1.1)).trans hHeld.1.1) ((hb3.cell (p := ⟨bl2, off2 + k, none⟩) (block_lt_of_cell hHeld.1.2)).trans hHeld.1.2)) (hHeld.2.trans (hb3.mono hHeld.2.size)); clear hb3 hx3
        refine hK.out _ _ hk3 (fun hHeld10 => ?_)
        clear hK K hHeld
        (try simp only [Act.put, List.setIfInBounds_toArray, List.set_cons_zero, List.set_cons_succ])
        refine wpAnyH_ready (rs := [11]) (by kernel_rfl) (by simp) ?_
        refine (AllReadyH.cons (o := { dst := some 25, op := Op.call { callee := Callee.builtin Builtin.append, args := #[Operand.tmp 14, Operand.tmp 24], argTypes := #[43, 43] }, type := 43, pos := "ref.go:214", after := #[{ on := 0, ground := Ground.data }, { on := 10, ground := Ground.data }], guard := none }) rfl (fun K hK => ?_) AllReadyH.nil)
        refine step_rowB rfl _ _ rfl w.heap.size _ acc rfl (HR.out.later ((Below.refl _ _).drew.trans HB10.out)) g3 false rfl HX3.out hlen hHeld10.2.size ?_; intro v5 w5 hr5 hb5 hg5; have HR5 := Lib.hid hr5; have hs5 := And.intro (And.intro ((hb5.cell (p := ⟨bl, off + k, none⟩) hbl).trans hHeld10.1.1) ((hb5.cell (p := ⟨bl2, off2 + k, none⟩) hbl2).trans hHeld10.1.2)) (hHeld10.2.trans hb5); clear hr5 hb5 hg5
        refine hK.out _ _ hs5 (fun hHeld11 => ?_)
        clear hK K hHeld10
        (try simp only [Act.put, List.setIfInBounds_toArray, List.set_cons_zero, List.set_cons_succ])
        (refine heldTake (i := 12) (oi := { dst := some 7, op := Op.assign (Operand.tmp 25), type := 43, pos := "ref.go:214", after := #[{ on := 11, ground := Ground.data }, { on := 11, ground := Ground.chain }, { on := 0, ground := Ground.phase }, { on := 1, ground := Ground.phase }, { on := 2, ground := Ground.phase }, { on := 3, ground := Ground.phase }, { on := 4, ground := Ground.phase }, { on := 5, ground := Ground.phase }, { on := 6, ground := Ground.phase }, { on := 7, ground := Ground.phase }, { on := 8, ground := Ground.phase }, { on := 9, ground := Ground.phase }, { on := 10, ground := Ground.phase }, { on := 11, ground := Ground.phase }], guard := none }) (v := ?_) rfl (by kernel_rfl) (by kernel_rfl) (by kernel_rfl) (by assumption) ?_ ?_; rotate_left; focus (refine .inl ⟨by kernel_rfl, ?_⟩; intro w hSw; (try dsimp only at hSw); go_simp; (try with_reducible rfl)); skip)
        (try simp only [Act.put, List.setIfInBounds_toArray, List.set_cons_zero, List.set_cons_succ])
        refine wpAnyH_done (by kernel_rfl) ?_ _
        refine NoPanic.normal ?_
        have hLast := hHeld11
        clear hHeld11
        go_wp2
        go_roundw
        case rel => exact ⟨k + 1, by omega, by go_num, by rw [HD.out]; exact HR5.out, hLast.2⟩
        case measure => simp [intOf]; omega
    · obtain rfl : k = 64 := by omega
      rw [List.take_of_length_le (by rw [HAL.out]; omega)] at hr
      obtain ⟨A9, c9, rfl, ho⟩ := hr.ob (by rw [HAL.out]; omega)
      rw [HAL.out, na]
      have HO := Lib.hid (numberw (c := c9) ho.lb (by rw [HAL.out]; exact na))
      have HBW := Lib.hid hbw
      clear hr hbw ho
      go_wp2_with (go_at_call 19; go_must ((with_reducible refine HO.out.mono ?_); rintro e w9 ⟨rfl, rfl⟩))
      go_ret
      exact ⟨rfl, HBW.out⟩
end Go.Proofs.Ytjgdfajooccalaa
