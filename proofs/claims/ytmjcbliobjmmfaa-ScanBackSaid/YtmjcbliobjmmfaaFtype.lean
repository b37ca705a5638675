/- FuncType. -/
import Derived.Test.YtmjcbliobjmmfaaVtypes
namespace Go.Proofs.Ytmjcbliobjmmfaa
open Go.RowKit
set_option linter.unusedVariables false

abbrev encF (x : List UInt8 × List UInt8) : Value := .agg #[.string (S x.1), .string (S x.2)]
/-- A function's type. -/
noncomputable def funcR (l : List UInt8) (k : Nat) : Res (List UInt8 × List UInt8) :=
  (tagR l k 96).bind fun _ k1 => (valsR l k1).bind fun a k2 => (valsR l k2).bind fun b k3 => if funcZ a b = 0 then .ok (a, b) k3 else .err (funcZ a b) k
theorem valsK_len {l : List UInt8} : ∀ (n k : Nat) (acc a : List UInt8) (q : Nat), valsK l n k acc = .ok a q → a.length = acc.length + n
  | 0, k, acc, a, q, h => by injection h with h1 h2; rw [← h1]; rfl
  | n + 1, k, acc, a, q, h => by
    unfold valsK at h
    cases hc : valR l k with
    | ok c q2 =>
      rw [hc, Res.bind_ok] at h
      have := valsK_len n q2 (acc ++ [c]) a q h
      simp at this; omega
    | err c x => rw [hc, Res.bind_err] at h; cases h
theorem valsR_len {l : List UInt8} {k : Nat} {a : List UInt8} {q : Nat} (h : valsR l k = .ok a q) : a.length ≤ 10000 := by
  unfold valsR at h
  cases hc : countR l k with
  | ok v q2 =>
    rw [hc, Res.bind_ok] at h
    have := countR_ok hc
    have := valsK_len _ _ _ _ _ h
    simp at this; omega
  | err c x => rw [hc, Res.bind_err] at h; cases h

set_option maxHeartbeats 1000000 in
theorem funcType_scan {w : World} {p : Nat} {l : List UInt8} {k : Nat} (h : Sc w p l k) :
    Calls Try.prog 15 #[.pointer (some ⟨p, 0, none⟩)] w (Did encF p l w (funcR l k)) := by
  have hlt := h.lt
  have c1 := h.at
  have hT := tag_scan (h.alloc (.cells #[.string { data := #[] }, .string { data := #[] }] 23)) 96
  have HWM := Lib.hid (Whole.made w 23 #[.string { data := #[] }, .string { data := #[] }])
  unfold funcR
  cases h1 : tagR l k 96 with
  | err c a =>
    rw [h1] at hT
    rw [Res.bind_err]
    have HT := Lib.hid hT
    clear hT h1 h
    go_enter Try.func15, Try.ntmps15
    go_wp2_with (go_at_call 30; go_must ((with_reducible refine HT.out.mono ?_); rintro e w1 ⟨rfl, hg⟩; have HG := Lib.hid hg; clear hg))
    exact ⟨rfl, rfl, gb_trans (gb_alloc (gb_refl w _) _) HG.out⟩
  | ok u k1 =>
    rw [h1] at hT
    rw [Res.bind_ok]
    have HT := Lib.hid hT
    clear hT h1 h
    have V1 := Lib.hid (fun W (hs : Sc W p l k1) => valTypes_scan hs)
    cases h2 : valsR l k1 with
    | err c a =>
      rw [h2] at V1
      rw [Res.bind_err]
      clear h2
      go_enter Try.func15, Try.ntmps15
      go_wp2_with (first
        | (go_at_call 30; go_must ((with_reducible refine HT.out.mono ?_); rintro e w1 ⟨rfl, hs, hg⟩; have HS := Lib.hid hs; have HG := Lib.hid hg; clear hs hg))
        | (go_at_call 31; go_must ((with_reducible refine (V1.out _ HS.out).mono ?_); rintro e w2 ⟨rfl, hg⟩; have HG2 := Lib.hid hg; clear hg)))
      exact ⟨rfl, rfl, gb_trans (gb_trans (gb_alloc (gb_refl w _) _) HG.out) HG2.out⟩
    | ok a k2 =>
      rw [h2] at V1
      rw [Res.bind_ok]
      have V2 := Lib.hid (fun W (hs : Sc W p l k2) => valTypes_scan hs)
      have la := valsR_len h2
      clear h2
      cases h3 : valsR l k2 with
      | err c x =>
        rw [h3] at V2
        rw [Res.bind_err]
        clear h3
        go_enter Try.func15, Try.ntmps15
        go_wp2_with (first
          | (go_at_call 30; go_must ((with_reducible refine HT.out.mono ?_); rintro e w1 ⟨rfl, hs, hg⟩; have HS := Lib.hid hs; have HG := Lib.hid hg; clear hs hg))
          | (have tok := HS2; go_at_call 31; go_must ((with_reducible refine (V2.out _ HS2.out).mono ?_); rintro e w3 ⟨rfl, hg⟩; have HG3 := Lib.hid hg; clear hg))
          | (go_at_call 31; go_must ((with_reducible refine (V1.out _ HS.out).mono ?_); rintro e w2 ⟨rfl, hs, hg⟩; have HS2 := Lib.hid hs; have HG2 := Lib.hid hg; clear hs hg)))
        exact ⟨rfl, rfl, gb_trans (gb_trans (gb_trans (gb_alloc (gb_refl w _) _) HG.out) HG2.out) HG3.out⟩
      | ok b k3 =>
        rw [h3] at V2
        rw [Res.bind_ok]
        have lb := valsR_len h3
        have F := Lib.hid (fun W => show Calls Try.prog 32 #[.agg #[.string (S a), .string (S b)]] W (fun e w' => e = .returned (.int .i64 (funcZ a b)) ∧ Below W.heap.size W w') from func_any a b W (by omega) (by omega))
        obtain ⟨z, hz⟩ : ∃ z, z = funcZ a b := ⟨_, rfl⟩
        rw [← hz] at F ⊢
        clear h3 hz la lb
        by_cases hm : z = 0
        · subst hm
          rw [if_pos rfl]
          go_enter Try.func15, Try.ntmps15
          go_wp2_with (first
            | (go_at_call 30; go_must ((with_reducible refine HT.out.mono ?_); rintro e w1 ⟨rfl, hs, hg⟩; have HS := Lib.hid hs; have HG := Lib.hid hg; have HW1 := Lib.hid (HWM.out.grown hg (by simp only [ne_eq, Option.some.injEq]; omega)); clear hs hg))
            | (have tok := HS2; go_at_call 31; go_must ((with_reducible refine (V2.out _ HS2.out).mono ?_); rintro e w3 ⟨rfl, hs, hg⟩; have HS3 := Lib.hid hs; have HG3 := Lib.hid hg; have HW3 := Lib.hid (HW2.out.grown hg (by simp only [ne_eq, Option.some.injEq]; omega)); clear hs hg))
            | (go_at_call 31; go_must ((with_reducible refine (V1.out _ HS.out).mono ?_); rintro e w2 ⟨rfl, hs, hg⟩; have HS2 := Lib.hid hs; have HG2 := Lib.hid hg; have HW2 := Lib.hid (HW1.out.grown hg (by simp only [ne_eq, Option.some.injEq]; omega)); clear hs hg))
            | (go_at_call 32; go_must ((with_reducible refine (F.out _).mono ?_); rintro e w4 ⟨rfl, hb⟩; have HB := Lib.hid hb; have hz3 := HG3.out.size; have hz2 := HG2.out.size; have hz1 := HG.out.size; simp only [World.size_alloc] at hz1; have HW4 := Lib.hid ((HW3.out.alloc (.cells #[.string (S a), .string (S b)] 23)).below hb); have g0 := HW4.out.frozen 0; have g1 := HW4.out.frozen 1; have k0 := HW4.out.cell 0; have k1' := HW4.out.cell 1; have HW5 := Lib.hid ((Whole.made w3 23 #[.string (S a), .string (S b)]).below hb); have k2' := HW5.out.cell 0; have k3' := HW5.out.cell 1; simp only [List.getElem?_toArray, List.getElem?_cons_zero, List.getElem?_cons_succ] at k0 k1' k2' k3'; clear hb))
            | (go_at_call 33; go_must ((with_reducible refine (unlessT _ _ _).mono ?_); rintro e w' ⟨rfl, rfl⟩)))
          obtain ⟨hW, hG⟩ := two_put (u := .string (S a)) (v := .string (S b)) HW4.out (Below.refl _ _)
          have q0 := hW.cell 0
          have q1 := hW.cell 1
          simp only [List.getElem?_toArray, List.getElem?_cons_zero, List.getElem?_cons_succ] at q0 q1
          have hall := gb_trans (gb_alloc (gb_trans (gb_trans (gb_trans (gb_alloc (gb_refl w _) _) HG.out) HG2.out) HG3.out) _) (gb_of_below (some p) HB.out)
          refine bodyPost_ret (v := .agg #[.string (S a), .string (S b)]) (by simp [results, Try.results15, go_sem, q0, q1]) rfl ⟨rfl, ?_, ?_⟩
          · exact ((HS3.out.alloc _).below HB.out).grown hG (by simp only [ne_eq, Option.some.injEq]; omega) (fun g e => by injection e with e; omega)
          · exact gb_put (p := ⟨w.heap.size, 1, none⟩) (gb_put (p := ⟨w.heap.size, 0, none⟩) hall (.inr (Nat.le_refl _)) _) (.inr (Nat.le_refl _)) _
        · rw [if_neg hm]
          have d1 : (z == 0) = false := by simpa using hm
          clear hm
          go_enter Try.func15, Try.ntmps15
          go_wp2_with (first
            | (go_at_call 30; go_must ((with_reducible refine HT.out.mono ?_); rintro e w1 ⟨rfl, hs, hg⟩; have HS := Lib.hid hs; have HG := Lib.hid hg; have HW1 := Lib.hid (HWM.out.grown hg (by simp only [ne_eq, Option.some.injEq]; omega)); clear hs hg))
            | (have tok := HS2; go_at_call 31; go_must ((with_reducible refine (V2.out _ HS2.out).mono ?_); rintro e w3 ⟨rfl, hs, hg⟩; have HS3 := Lib.hid hs; have HG3 := Lib.hid hg; have HW3 := Lib.hid (HW2.out.grown hg (by simp only [ne_eq, Option.some.injEq]; omega)); clear hs hg))
            | (go_at_call 31; go_must ((with_reducible refine (V1.out _ HS.out).mono ?_); rintro e w2 ⟨rfl, hs, hg⟩; have HS2 := Lib.hid hs; have HG2 := Lib.hid hg; have HW2 := Lib.hid (HW1.out.grown hg (by simp only [ne_eq, Option.some.injEq]; omega)); clear hs hg))
            | (go_at_call 32; go_must ((with_reducible refine (F.out _).mono ?_); rintro e w4 ⟨rfl, hb⟩; have HB := Lib.hid hb; have hz3 := HG3.out.size; have hz2 := HG2.out.size; have hz1 := HG.out.size; simp only [World.size_alloc] at hz1; have HW4 := Lib.hid ((HW3.out.alloc (.cells #[.string (S a), .string (S b)] 23)).below hb); have g0 := HW4.out.frozen 0; have g1 := HW4.out.frozen 1; have k0 := HW4.out.cell 0; have k1' := HW4.out.cell 1; have HW5 := Lib.hid ((Whole.made w3 23 #[.string (S a), .string (S b)]).below hb); have k2' := HW5.out.cell 0; have k3' := HW5.out.cell 1; simp only [List.getElem?_toArray, List.getElem?_cons_zero, List.getElem?_cons_succ] at k0 k1' k2' k3'; clear hb))
            | (go_at_call 33; go_must ((with_reducible refine (unlessF _ _ _).mono ?_); rintro e w' ⟨rfl, rfl⟩)))
          exact ⟨rfl, rfl, gb_trans (gb_alloc (gb_trans (gb_trans (gb_trans (gb_alloc (gb_refl w _) _) HG.out) HG2.out) HG3.out) _) (gb_of_below (some p) HB.out)⟩
end Go.Proofs.Ytmjcbliobjmmfaa

